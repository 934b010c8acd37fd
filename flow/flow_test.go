package flow

import (
	"math"
	"math/big"
	"testing"

	"sandglass/api"
)

const never = uint64(api.Never)

// dice are numbers of all sizes, the same ones in every run.
type dice struct{ state uint64 }

func (d *dice) next() uint64 {
	d.state = d.state*6364136223846793005 + 1442695040888963407
	return d.state ^ d.state>>29
}

// below is a number from 0 to n-1.
func (d *dice) below(n uint64) uint64 { return d.next() >> 11 % n }

// upTo is a number from 1 to n, small ones as often as great ones.
func (d *dice) upTo(n uint64) uint64 {
	return 1 + d.below(min(n, 1<<d.below(41)))
}

func charged(t *testing.T, f api.Flow, n int, now uint64, p api.Pace) api.Flow {
	t.Helper()
	g, e := Charge(f, n, now, p)
	if e != api.OK {
		t.Fatalf("Charge(%+v, %d, %d, %+v): %d", f, n, now, p, e)
	}
	return g
}

func same(t *testing.T, what string, got, want api.Flow) {
	t.Helper()
	if got != want {
		t.Errorf("%s: %+v, not %+v", what, got, want)
	}
}

// whole is a flow with something in each of its fields.
func whole() api.Flow {
	return api.Flow{Sock: never - 6, Cookie: 1<<40 + 3, Rate: 2000, Credit: 777, Next: 5_000, Debt: 44, Age: 66}
}

// The chapter's examples.
func TestExamples(t *testing.T) {
	p := api.Pace{Quantum: 1000, First: 1500, Low: 10}
	f := Born(1, 2, p)
	same(t, "born", f, api.Flow{Sock: 1, Cookie: 2, Credit: 1500})
	f.Rate = 1_000_000
	f = charged(t, f, 1000, 7, p)
	same(t, "charged 1000", f, api.Flow{Sock: 1, Cookie: 2, Rate: 1_000_000, Credit: 500, Debt: 1000})
	f = charged(t, f, 600, 8, p)
	same(t, "charged 600", f, api.Flow{Sock: 1, Cookie: 2, Rate: 1_000_000, Credit: -100, Next: 1_600_008})
	f = Fill(f, p)
	same(t, "filled", f, api.Flow{Sock: 1, Cookie: 2, Rate: 1_000_000, Credit: 900, Next: 1_600_008})
	slow := Born(1, 2, p)
	slow.Rate = 5
	slow = charged(t, slow, 1, 7, p)
	same(t, "slow, once", slow, api.Flow{Sock: 1, Cookie: 2, Rate: 5, Next: 200_000_007})
	slow = charged(t, slow, 2, 200_000_007, p)
	same(t, "slow, twice", slow, api.Flow{Sock: 1, Cookie: 2, Rate: 5, Credit: -2, Next: 600_000_007})
}

// P12.1: each number of a pace, at its bounds and beyond.
func TestRight(t *testing.T) {
	for _, r := range []struct {
		name string
		pace api.Pace
		want bool
	}{
		{"nothing", api.Pace{}, false},
		{"the least", api.Pace{Quantum: 1, First: 1}, true},
		{"the greatest", api.Pace{Quantum: 1 << 20, First: 1 << 20, Refill: never, Most: 1 << 40, Low: 1 << 40}, true},
		{"any", api.Pace{Quantum: 3028, First: 15140, Refill: 40_000_000, Low: 68750}, true},
		{"Quantum 0", api.Pace{Quantum: 0, First: 1}, false},
		{"Quantum below 0", api.Pace{Quantum: -1, First: 1}, false},
		{"Quantum the least of all", api.Pace{Quantum: math.MinInt, First: 1}, false},
		{"Quantum 2^20", api.Pace{Quantum: 1 << 20, First: 1}, true},
		{"Quantum 2^20 and one", api.Pace{Quantum: 1<<20 + 1, First: 1}, false},
		{"Quantum the greatest of all", api.Pace{Quantum: math.MaxInt, First: 1}, false},
		{"First 0", api.Pace{Quantum: 1, First: 0}, false},
		{"First below 0", api.Pace{Quantum: 1, First: -1}, false},
		{"First the least of all", api.Pace{Quantum: 1, First: math.MinInt}, false},
		{"First 2^20", api.Pace{Quantum: 1, First: 1 << 20}, true},
		{"First 2^20 and one", api.Pace{Quantum: 1, First: 1<<20 + 1}, false},
		{"First the greatest of all", api.Pace{Quantum: 1, First: math.MaxInt}, false},
		{"Most 2^40", api.Pace{Quantum: 1, First: 1, Most: 1 << 40}, true},
		{"Most 2^40 and one", api.Pace{Quantum: 1, First: 1, Most: 1<<40 + 1}, false},
		{"Most Never", api.Pace{Quantum: 1, First: 1, Most: never}, false},
		{"Low 2^40", api.Pace{Quantum: 1, First: 1, Low: 1 << 40}, true},
		{"Low 2^40 and one", api.Pace{Quantum: 1, First: 1, Low: 1<<40 + 1}, false},
		{"Low Never", api.Pace{Quantum: 1, First: 1, Low: never}, false},
		{"Low above Most", api.Pace{Quantum: 1, First: 1, Most: 1, Low: 2}, true},
		{"First below Quantum", api.Pace{Quantum: 2, First: 1}, true},
		{"Refill Never", api.Pace{Quantum: 1, First: 1, Refill: never}, true},
		{"all of it wrong", api.Pace{Quantum: 1<<20 + 1, First: 0, Most: never, Low: never}, false},
	} {
		if got := Right(r.pace); got != r.want {
			t.Errorf("%s: %v", r.name, got)
		}
	}
}

// P12.1: a flow is born with the credit First, and nothing else.
func TestBorn(t *testing.T) {
	for _, sock := range []uint64{0, 1, 9, 1 << 63, never} {
		for _, cookie := range []uint64{0, 1, 7, 1 << 63, never} {
			for _, first := range []int{1, 2, 15140, 1 << 20} {
				p := api.Pace{Quantum: 1<<20 - first + 1, First: first, Refill: 40, Most: 1 << 40, Low: 5}
				same(t, "born", Born(sock, cookie, p), api.Flow{Sock: sock, Cookie: cookie, Credit: first})
			}
		}
	}
}

// P12.1: the lesser one of the flow's own rate and the pace's Most, that is one.
func TestRate(t *testing.T) {
	for _, r := range []struct{ own, most, want uint64 }{
		{0, 0, 0},
		{5, 0, 5},
		{0, 5, 5},
		{3, 5, 3},
		{5, 3, 3},
		{4, 4, 4},
		{1, 0, 1},
		{0, 1, 1},
		{1, 1 << 40, 1},
		{1 << 40, 1, 1},
		{1 << 40, 0, 1 << 40},
		{0, 1 << 40, 1 << 40},
		{1 << 40, 1 << 40, 1 << 40},
		{1 << 40, 1<<40 - 1, 1<<40 - 1},
	} {
		// Nothing else that a flow or a pace has counts.
		f := whole()
		f.Rate = r.own
		for _, low := range []uint64{0, 2, 1 << 40} {
			p := api.Pace{Quantum: 70, First: 90, Refill: 8, Most: r.most, Low: low}
			if got := Rate(f, p); got != r.want {
				t.Errorf("own %d, Most %d, Low %d: %d, not %d", r.own, r.most, low, got, r.want)
			}
			if got := Rate(api.Flow{Rate: r.own}, p); got != r.want {
				t.Errorf("own %d alone, Most %d, Low %d: %d, not %d", r.own, r.most, low, got, r.want)
			}
		}
	}
}

// P12.2: at, or Next, if that is later.
func TestReady(t *testing.T) {
	for _, r := range []struct{ next, at, want uint64 }{
		{0, 0, 0},
		{0, 9, 9},
		{9, 0, 9},
		{9, 8, 9},
		{9, 9, 9},
		{9, 10, 10},
		{never, 0, never},
		{never, never - 1, never},
		{never, never, never},
		{never - 1, never, never},
		{0, never, never},
		{1 << 63, 1<<63 - 1, 1 << 63},
		{1<<63 - 1, 1 << 63, 1 << 63},
	} {
		f := whole()
		f.Next = r.next
		if got := Ready(f, r.at); got != r.want {
			t.Errorf("Next %d, at %d: %d, not %d", r.next, r.at, got, r.want)
		}
	}
}

// P12.2: Quantum more of credit, whatever there is of it, and nothing else.
func TestFill(t *testing.T) {
	for _, credit := range []int{-1 << 20, -65536, -101, -100, -1, 0, 1, 99, 100, 101, 1 << 20} {
		for _, quantum := range []int{1, 100, 1 << 20} {
			f := whole()
			f.Credit = credit
			want := f
			want.Credit = credit + quantum
			p := api.Pace{Quantum: quantum, First: 1<<20 - quantum + 1, Refill: 3, Most: 6, Low: 9}
			same(t, "filled", Fill(f, p), want)
		}
	}
}

// P12.3: how many bytes may be charged; what is refused changes nothing.
func TestChargeRefused(t *testing.T) {
	for _, most := range []uint64{0, 1000, 1 << 40} {
		for _, low := range []uint64{0, 1500, 1 << 40} {
			p := api.Pace{Quantum: 300, First: 500, Refill: 50, Most: most, Low: low}
			for _, own := range []uint64{0, 7, 2000, 1 << 40} {
				f := whole()
				f.Rate = own
				for _, n := range []int{0, -1, -2, -65536, math.MinInt, 65537, 65538, 1 << 17, 1 << 32, 1<<32 + 1, math.MaxInt} {
					if g, e := Charge(f, n, 9, p); g != f || e != api.ErrArg {
						t.Errorf("Charge of %d: %+v, %d", n, g, e)
					}
				}
				for _, n := range []int{1, 2, 65535, 65536} {
					if g, e := Charge(f, n, 9, p); g.Credit > 777-n || e != api.OK {
						t.Errorf("Charge of %d: %+v, %d", n, g, e)
					}
				}
			}
		}
	}
}

// P12.3, by hand. A rate of 1000 has a byte in each 1000000.
func TestChargeRows(t *testing.T) {
	quick := api.Pace{Quantum: 300, First: 500, Refill: 50, Low: 1000}
	capped := api.Pace{Quantum: 300, First: 500, Refill: 50, Most: 1000, Low: 1000}
	capless := api.Pace{Quantum: 300, First: 500, Refill: 50, Most: 1000}
	slow := api.Pace{Quantum: 300, First: 500, Refill: 50, Low: 1001}
	for _, r := range []struct {
		name string
		f    api.Flow
		n    int
		now  uint64
		p    api.Pace
		want api.Flow
	}{
		{"not paced, with credit left", api.Flow{Credit: 500}, 100, 7, quick, api.Flow{Credit: 400}},
		{"not paced, with none left", api.Flow{Credit: 500}, 500, 7, quick, api.Flow{}},
		{"not paced, below none", api.Flow{Credit: 500}, 501, 7, quick, api.Flow{Credit: -1}},
		{"not paced, without any", api.Flow{Credit: -3}, 65536, 7, quick, api.Flow{Credit: -65539}},
		{"not paced, with a debt and a Next", api.Flow{Credit: 5, Next: 3, Debt: 4, Age: 2}, 9, 7, quick, api.Flow{Credit: -4, Next: 3, Debt: 4, Age: 2}},
		{"credit left", api.Flow{Rate: 1000, Credit: 500}, 499, 7, quick, api.Flow{Rate: 1000, Credit: 1, Debt: 499}},
		{"credit left, of one byte", api.Flow{Rate: 1000, Credit: 500}, 1, 7, quick, api.Flow{Rate: 1000, Credit: 499, Debt: 1}},
		{"credit left, with a debt", api.Flow{Rate: 1000, Credit: 500, Next: 3, Debt: 40, Age: 2}, 60, 7, quick, api.Flow{Rate: 1000, Credit: 440, Next: 3, Debt: 100, Age: 2}},
		{"a credit of just 0", api.Flow{Rate: 1000, Credit: 500}, 500, 7, quick, api.Flow{Rate: 1000, Next: 500_000_007}},
		{"a credit of just 0, with a debt", api.Flow{Rate: 1000, Credit: 50, Debt: 25}, 50, 7, quick, api.Flow{Rate: 1000, Next: 75_000_007}},
		{"one below 0", api.Flow{Rate: 1000, Credit: 500}, 501, 7, quick, api.Flow{Rate: 1000, Credit: -1, Next: 501_000_007}},
		{"far below 0", api.Flow{Rate: 1000, Credit: 1}, 65536, 7, quick, api.Flow{Rate: 1000, Credit: -65535, Next: 65_536_000_007}},
		{"no credit from the beginning", api.Flow{Rate: 1000}, 1, 7, quick, api.Flow{Rate: 1000, Credit: -1, Next: 1_000_007}},
		{"below 0 from the beginning", api.Flow{Rate: 1000, Credit: -9}, 1, 7, quick, api.Flow{Rate: 1000, Credit: -10, Next: 1_000_007}},
		{"by Most alone", api.Flow{Credit: 5}, 5, 7, capped, api.Flow{Next: 5_000_007}},
		{"by Most, which is less", api.Flow{Rate: 4000, Credit: 5}, 5, 7, capped, api.Flow{Rate: 4000, Next: 5_000_007}},
		{"by its own, which is less, and below Low", api.Flow{Rate: 500, Credit: 50}, 5, 7, capped, api.Flow{Rate: 500, Next: 10_000_007}},
		{"by its own, which is less, without Low", api.Flow{Rate: 500, Credit: 50}, 5, 7, capless, api.Flow{Rate: 500, Credit: 45, Debt: 5}},
		{"at Low", api.Flow{Rate: 1000, Credit: 6}, 5, 7, quick, api.Flow{Rate: 1000, Credit: 1, Debt: 5}},
		{"one above Low", api.Flow{Rate: 1001, Credit: 6}, 5, 7, slow, api.Flow{Rate: 1001, Credit: 1, Debt: 5}},
		{"one below Low, with credit above 0", api.Flow{Rate: 1000, Credit: 6}, 5, 7, slow, api.Flow{Rate: 1000, Next: 5_000_007}},
		{"below Low, far above 0", api.Flow{Rate: 1000, Credit: 500}, 1, 7, slow, api.Flow{Rate: 1000, Next: 1_000_007}},
		{"below Low, at 0", api.Flow{Rate: 1000, Credit: 5}, 5, 7, slow, api.Flow{Rate: 1000, Next: 5_000_007}},
		{"below Low, one below 0", api.Flow{Rate: 1000, Credit: 5}, 6, 7, slow, api.Flow{Rate: 1000, Credit: -1, Next: 6_000_007}},
		{"below Low, far below 0", api.Flow{Rate: 1000, Credit: -500}, 1, 7, slow, api.Flow{Rate: 1000, Credit: -501, Next: 1_000_007}},
		{"below Low, with a debt", api.Flow{Rate: 1000, Credit: 500, Debt: 30, Age: 4}, 1, 7, slow, api.Flow{Rate: 1000, Next: 31_000_007, Age: 4}},
		{"below Low by Most", api.Flow{Rate: 4000, Credit: 50}, 5, 7, api.Pace{Quantum: 300, First: 500, Most: 1000, Low: 1001}, api.Flow{Rate: 4000, Next: 5_000_007}},
		{"Low 0 and the least rate", api.Flow{Rate: 1, Credit: 6}, 5, 7, api.Pace{Quantum: 300, First: 500}, api.Flow{Rate: 1, Credit: 1, Debt: 5}},
		{"rounded up", api.Flow{Rate: 3, Credit: 1}, 1, 7, api.Pace{Quantum: 300, First: 500}, api.Flow{Rate: 3, Next: 333_333_341}},
		{"the greatest rate", api.Flow{Rate: 1 << 40, Credit: 1}, 65536, 7, quick, api.Flow{Rate: 1 << 40, Credit: -65535, Next: 67}},
		{"the greatest rate below the greatest Low", api.Flow{Rate: 1<<40 - 1, Credit: 1}, 1, 7, api.Pace{Quantum: 300, First: 500, Low: 1 << 40}, api.Flow{Rate: 1<<40 - 1, Next: 8}},
		{"Next is later", api.Flow{Rate: 1000, Credit: 5, Next: 5_000_008}, 5, 7, quick, api.Flow{Rate: 1000, Next: 5_000_008}},
		{"Next is the same", api.Flow{Rate: 1000, Credit: 5, Next: 5_000_007}, 5, 7, quick, api.Flow{Rate: 1000, Next: 5_000_007}},
		{"Next is one ahead", api.Flow{Rate: 1000, Credit: 5, Next: 5_000_006}, 5, 7, quick, api.Flow{Rate: 1000, Next: 5_000_007}},
		{"Next is later, below Low", api.Flow{Rate: 1000, Credit: 50, Next: 5_000_008}, 5, 7, slow, api.Flow{Rate: 1000, Next: 5_000_008}},
		{"Next is far later", api.Flow{Rate: 1000, Credit: 5, Next: never}, 5, 7, quick, api.Flow{Rate: 1000, Next: never}},
		{"the debt is paid, though Next is later", api.Flow{Rate: 1000, Credit: 5, Next: never, Debt: 9}, 5, 7, quick, api.Flow{Rate: 1000, Next: never}},
	} {
		r.f.Sock, r.f.Cookie = 11, 12
		r.want.Sock, r.want.Cookie = 11, 12
		same(t, r.name, charged(t, r.f, r.n, r.now, r.p), r.want)
	}
}

// P12.3: payments whose end is at Never, or would be beyond it, are kept.
func TestChargeNearNever(t *testing.T) {
	p := api.Pace{Quantum: 300, First: 500, Low: 10}
	for _, r := range []struct{ now, rate, next, want uint64 }{
		{never - 5_000_001, 1000, 0, never - 1},
		{never - 5_000_000, 1000, 0, never},
		{never - 4_999_999, 1000, 0, never},
		{never - 1, 1000, 0, never},
		{never, 1000, 0, never},
		{never, 1000, never, never},
		{never - 2, 1 << 40, 0, never - 1},
		{never - 1, 1 << 40, 0, never},
		{never, 1 << 40, 0, never},
		{1 << 63, 1000, 0, 1<<63 + 5_000_000},
		{never - 5_000_001, 1000, never, never},
		{never, 9, 0, never},                               // below Low
		{never - 555_555_557, 9, 0, never - 1},             // below Low, rounded up
		{never - 555_555_556, 9, 0, never},                 // below Low, just there
		{never - 555_555_557, 9, never, never},             // below Low, Next later
		{never - 5_000_000_001, 1, never - 2, never - 1},   // below Low, Next one ahead
		{never - 5_000_000_002, 1, never - 1, never - 1},   // below Low, Next one later
		{never - 10_000_000_000, 1, 0, never - 5000000000}, // below Low, far ahead
	} {
		f := charged(t, api.Flow{Rate: r.rate, Credit: 5, Next: r.next}, 5, r.now, p)
		same(t, "near Never", f, api.Flow{Rate: r.rate, Next: r.want})
	}
}

// P12.4: Age is now, whatever it was, and nothing else changes.
func TestRest(t *testing.T) {
	for _, age := range []uint64{0, 8, 9, 10, never} {
		for _, now := range []uint64{0, 1, 9, 1 << 63, never - 1, never} {
			f := whole()
			f.Age = age
			want := f
			want.Age = now
			same(t, "resting", Rest(f, now), want)
		}
	}
}

// P12.4, by hand: who wakes, and who stays as it is.
func TestWakeWhen(t *testing.T) {
	for _, r := range []struct {
		name             string
		age, refill, now uint64
		wakes            bool
	}{
		{"one unit ahead of Refill", 1000, 50, 1049, false},
		{"at it", 1000, 50, 1050, true},
		{"behind it", 1000, 50, 1051, true},
		{"far behind it", 1000, 50, never, true},
		{"at Age", 1000, 50, 1000, false},
		{"ahead of Age", 1000, 50, 999, false},
		{"far ahead of Age", 1000, 50, 0, false},
		{"no Refill, ahead of Age", 1000, 0, 999, false},
		{"no Refill, far ahead of Age", 1000, 0, 0, false},
		{"no Refill, at Age", 1000, 0, 1000, true},
		{"no Refill, behind Age", 1000, 0, 1001, true},
		{"nothing at all", 0, 0, 0, true},
		{"Refill Never, from the beginning, one ahead", 0, never, never - 1, false},
		{"Refill Never, from the beginning", 0, never, never, true},
		{"Refill Never, from 1 on, one ahead", 1, never, never - 1, false},
		{"Refill Never, from 1 on, kept", 1, never, never, true},
		{"just at Never, one ahead", never - 50, 50, never - 1, false},
		{"just at Never", never - 50, 50, never, true},
		{"one ahead of Never, one ahead", never - 51, 50, never - 2, false},
		{"one ahead of Never", never - 51, 50, never - 1, true},
		{"beyond Never, one ahead", never - 49, 50, never - 1, false},
		{"beyond Never, kept", never - 49, 50, never, true},
		{"beyond Never, where a sum would go round", never - 49, 50, 0, false},
		{"Age Never, kept", never, 50, never, true},
		{"Age Never, one ahead", never, 50, never - 1, false},
		{"Age Never, no Refill", never, 0, never, true},
		{"Age Never, no Refill, one ahead", never, 0, never - 1, false},
		{"both Never", never, never, never, true},
		{"both Never, one ahead", never, never, never - 1, false},
	} {
		f := api.Flow{Sock: 3, Cookie: 4, Credit: -20, Next: 6, Debt: 9, Age: r.age}
		p := api.Pace{Quantum: 300, First: 500, Refill: r.refill}
		want := f
		if r.wakes {
			want.Credit, want.Debt = 300, 0
		}
		same(t, r.name, Wake(f, r.now, p), want)
		f.Rate = 1 << 40
		want.Rate = f.Rate
		if r.wakes {
			want.Next = max(6, r.age+min(1, never-r.age))
		}
		same(t, r.name+", paced", Wake(f, r.now, p), want)
	}
}

// P12.4, by hand: what becomes of who wakes.
func TestWakeRows(t *testing.T) {
	for _, r := range []struct {
		name      string
		f         api.Flow
		most, low uint64
		want      api.Flow
	}{
		{"without a debt", api.Flow{Rate: 1000, Age: 70}, 0, 0, api.Flow{Rate: 1000, Credit: 300, Age: 70}},
		{"without a debt, Next ahead of Age", api.Flow{Rate: 1000, Next: 69, Age: 70}, 0, 0, api.Flow{Rate: 1000, Credit: 300, Next: 69, Age: 70}},
		{"without a debt, Next behind Age", api.Flow{Rate: 1000, Next: 71, Age: 70}, 0, 0, api.Flow{Rate: 1000, Credit: 300, Next: 71, Age: 70}},
		{"with a debt", api.Flow{Rate: 1000, Debt: 2, Age: 70}, 0, 0, api.Flow{Rate: 1000, Credit: 300, Next: 2_000_070, Age: 70}},
		{"with a debt of 1", api.Flow{Rate: 1000, Debt: 1, Age: 70}, 0, 0, api.Flow{Rate: 1000, Credit: 300, Next: 1_000_070, Age: 70}},
		{"with a debt, rounded up", api.Flow{Rate: 3, Debt: 1, Age: 70}, 0, 0, api.Flow{Rate: 3, Credit: 300, Next: 333_333_404, Age: 70}},
		{"with a debt, Next later", api.Flow{Rate: 1000, Next: 2_000_071, Debt: 2, Age: 70}, 0, 0, api.Flow{Rate: 1000, Credit: 300, Next: 2_000_071, Age: 70}},
		{"with a debt, Next one ahead", api.Flow{Rate: 1000, Next: 2_000_069, Debt: 2, Age: 70}, 0, 0, api.Flow{Rate: 1000, Credit: 300, Next: 2_000_070, Age: 70}},
		{"with a debt, by Most", api.Flow{Debt: 2, Age: 70}, 1000, 0, api.Flow{Credit: 300, Next: 2_000_070, Age: 70}},
		{"with a debt, by Most, which is less", api.Flow{Rate: 1 << 40, Debt: 2, Age: 70}, 1000, 0, api.Flow{Rate: 1 << 40, Credit: 300, Next: 2_000_070, Age: 70}},
		{"with a debt, by its own, which is less", api.Flow{Rate: 1000, Debt: 2, Age: 70}, 1 << 40, 0, api.Flow{Rate: 1000, Credit: 300, Next: 2_000_070, Age: 70}},
		{"with a debt, below Low", api.Flow{Rate: 1000, Debt: 2, Age: 70}, 0, 1001, api.Flow{Rate: 1000, Credit: 300, Next: 2_000_070, Age: 70}},
		{"below Low, with credit", api.Flow{Rate: 1000, Credit: 400, Age: 70}, 0, 1001, api.Flow{Rate: 1000, Credit: 400, Age: 70}},
		{"with a debt, at the greatest rate", api.Flow{Rate: 1 << 40, Debt: 65536, Age: 70}, 0, 0, api.Flow{Rate: 1 << 40, Credit: 300, Next: 130, Age: 70}},
		{"not paced, with a debt", api.Flow{Next: 5, Debt: 2, Age: 70}, 0, 0, api.Flow{Credit: 300, Next: 5, Age: 70}},
		{"not paced, without a debt", api.Flow{Next: 5, Age: 70}, 0, 0, api.Flow{Credit: 300, Next: 5, Age: 70}},
		{"not paced, with a debt, and a Low", api.Flow{Next: 5, Debt: 2, Age: 70}, 0, 9, api.Flow{Credit: 300, Next: 5, Age: 70}},
		{"a credit far below 0", api.Flow{Credit: -65535, Age: 70}, 0, 0, api.Flow{Credit: 300, Age: 70}},
		{"a credit of -1", api.Flow{Credit: -1, Age: 70}, 0, 0, api.Flow{Credit: 300, Age: 70}},
		{"a credit of 1", api.Flow{Credit: 1, Age: 70}, 0, 0, api.Flow{Credit: 300, Age: 70}},
		{"a credit one below Quantum", api.Flow{Credit: 299, Age: 70}, 0, 0, api.Flow{Credit: 300, Age: 70}},
		{"a credit at Quantum", api.Flow{Credit: 300, Age: 70}, 0, 0, api.Flow{Credit: 300, Age: 70}},
		{"a credit one above Quantum", api.Flow{Credit: 301, Age: 70}, 0, 0, api.Flow{Credit: 301, Age: 70}},
		{"a credit far above Quantum, with a debt", api.Flow{Rate: 1000, Credit: 499, Debt: 1, Age: 70}, 0, 0, api.Flow{Rate: 1000, Credit: 499, Next: 1_000_070, Age: 70}},
		{"a credit below Quantum, with a debt", api.Flow{Rate: 1000, Credit: 299, Debt: 1, Age: 70}, 0, 0, api.Flow{Rate: 1000, Credit: 300, Next: 1_000_070, Age: 70}},
	} {
		r.f.Sock, r.f.Cookie = 11, 12
		r.want.Sock, r.want.Cookie = 11, 12
		p := api.Pace{Quantum: 300, First: 500, Refill: 50, Most: r.most, Low: r.low}
		same(t, r.name+", one ahead", Wake(r.f, 119, p), r.f)
		for _, now := range []uint64{120, 121, 1 << 40, never} {
			same(t, r.name, Wake(r.f, now, p), r.want)
			same(t, r.name+", twice", Wake(r.want, now, p), r.want)
		}
	}
}

// P12.4: payments at an Age near Never are kept.
func TestWakeNearNever(t *testing.T) {
	for _, r := range []struct{ age, next, want uint64 }{
		{never - 2_000_001, 0, never - 1},
		{never - 2_000_000, 0, never},
		{never - 1_999_999, 0, never},
		{never - 1, 0, never},
		{never, 0, never},
		{never, never, never},
		{never - 2_000_001, never, never},
		{never - 2_000_002, never - 1, never - 1},
		{never - 2_000_003, never - 1, never - 1},
	} {
		f := api.Flow{Rate: 1000, Credit: 1, Next: r.next, Debt: 2, Age: r.age}
		want := api.Flow{Rate: 1000, Credit: 300, Next: r.want, Age: r.age}
		same(t, "near Never", Wake(f, never, api.Pace{Quantum: 300, First: 500, Refill: 50}), want)
	}
}

// by is an instant and how long bytes take at a rate, kept, by numbers without bound.
func by(at, bytes, rate uint64) uint64 {
	exact := func(x uint64) *big.Int { return new(big.Int).SetUint64(x) }
	long, rest := new(big.Int).QuoRem(new(big.Int).Mul(exact(bytes), exact(api.Second)), exact(rate), new(big.Int))
	if rest.Sign() != 0 {
		long.Add(long, exact(1))
	}
	if long.Add(long, exact(at)); !long.IsUint64() {
		return never
	}
	return long.Uint64()
}

// rateOf is a flow's rate, by the chapter's words.
func rateOf(f api.Flow, p api.Pace) uint64 {
	switch {
	case f.Rate == 0:
		return p.Most
	case p.Most == 0 || f.Rate < p.Most:
		return f.Rate
	}
	return p.Most
}

// chargedByWords is a flow that is charged, by the chapter's words.
func chargedByWords(f api.Flow, n int, now uint64, p api.Pace) api.Flow {
	rate := rateOf(f, p)
	f.Credit -= n
	if rate == 0 {
		return f
	}
	f.Debt += uint64(n)
	if rate < p.Low || f.Credit <= 0 {
		if next := by(now, f.Debt, rate); next > f.Next {
			f.Next = next
		}
		f.Debt = 0
	}
	if rate < p.Low && f.Credit > 0 {
		f.Credit = 0
	}
	return f
}

// wokenByWords is a flow that wakes, by the chapter's words.
func wokenByWords(f api.Flow, now uint64, p api.Pace) api.Flow {
	due := f.Age + p.Refill
	if due < f.Age {
		due = never
	}
	if now < due {
		return f
	}
	rate := rateOf(f, p)
	if rate > 0 && f.Debt > 0 {
		if next := by(f.Age, f.Debt, rate); next > f.Next {
			f.Next = next
		}
	}
	f.Debt = 0
	if f.Credit < p.Quantum {
		f.Credit = p.Quantum
	}
	return f
}

// paceOf is a right pace, with all that it may have or not.
func paceOf(d *dice) api.Pace {
	p := api.Pace{
		Quantum: int(d.upTo(api.MaxQuantum)),
		First:   int(d.upTo(api.MaxQuantum)),
		Refill:  d.upTo(1 << 40),
	}
	if d.below(2) == 0 {
		p.Most = d.upTo(api.MaxRate)
	}
	if d.below(3) > 0 {
		p.Low = d.upTo(api.MaxRate)
	}
	if d.below(9) == 0 {
		p.Refill = 0
	}
	return p
}

// P12.2 to P12.4: long lives of flows, held against the chapter's words: steps, rates and instants in any order, near Never too.
func TestLives(t *testing.T) {
	d := &dice{state: 12}
	for range 4000 {
		p := paceOf(d)
		if !Right(p) {
			t.Fatalf("%+v is not right", p)
		}
		f := Born(d.next(), d.next(), p)
		clock := d.below(1 << 40)
		if d.below(4) == 0 {
			clock = never - d.below(1<<40)
		}
		for range 60 {
			if d.below(3) > 0 {
				clock += min(d.upTo(1<<40), never-clock)
			}
			want := f
			now := clock
			if d.below(8) == 0 {
				now = d.next()
			}
			switch d.below(6) {
			case 0:
				f = Fill(f, p)
				want.Credit += p.Quantum
			case 1:
				f = Rest(f, now)
				want.Age = now
			case 2:
				f = Wake(f, now, p)
				want = wokenByWords(want, now, p)
			case 3:
				f.Rate = d.upTo(api.MaxRate) * d.below(2)
				want.Rate = f.Rate
				if got := Rate(f, p); got != rateOf(f, p) {
					t.Fatalf("Rate(%+v, %+v): %d", f, p, got)
				}
			default:
				n := int(d.upTo(api.MaxLen))
				want = chargedByWords(f, n, now, p)
				f = charged(t, f, n, now, p)
			}
			if f != want {
				t.Fatalf("at %d, of %+v: %+v, not %+v", now, p, f, want)
			}
			if got := Ready(f, now); got < now || got < f.Next || got != now && got != f.Next {
				t.Fatalf("Ready(%+v, %d): %d", f, now, got)
			}
		}
	}
}

// sent is bytes that were charged at an instant.
type sent struct {
	at    uint64
	bytes int
}

// holdsPace: in the time from each packet to each later one a flow was charged no more than that time is worth, and one burst. It answers how few bytes below that it came.
func holdsPace(t *testing.T, p api.Pace, rate uint64, row []sent) uint64 {
	t.Helper()
	least := never
	for i, first := range row {
		bytes, longest := uint64(0), 0
		for _, last := range row[i:] {
			bytes += uint64(last.bytes)
			longest = max(longest, last.bytes)
			burst := uint64(max(p.Quantum, p.First) - 1 + longest)
			most := worth(last.at-first.at, rate) + burst
			if bytes > most {
				t.Fatalf("of %+v, at %d: from %d to %d %d bytes, more than %d", p, rate, first.at, last.at, bytes, most)
			}
			least = min(least, most-bytes)
		}
	}
	return least
}

// worth is how many bytes a time is worth, by numbers without bound.
func worth(long, rate uint64) uint64 {
	product := new(big.Int).Mul(new(big.Int).SetUint64(long), new(big.Int).SetUint64(rate))
	return product.Quo(product, big.NewInt(api.Second)).Uint64()
}

// fair is a pace and a rate of a flow by it, from Low on.
func fair(d *dice) (api.Pace, uint64) {
	p := paceOf(d)
	p.Quantum, p.First = int(d.upTo(5000)), int(d.upTo(9000))
	p.Refill = d.upTo(1 << 33)
	own := d.upTo(api.MaxRate)
	p.Low = min(p.Low, rateOf(api.Flow{Rate: own}, p))
	return p, own
}

// P12.5: a flow that is charged from Ready on and with credit, filled only without, and rests and wakes, leaves in no time more than that is worth, and one burst. Next never goes back.
func TestPace(t *testing.T) {
	d := &dice{state: 5}
	woken, filled, closest := 0, 0, never
	for range 1500 {
		p, own := fair(d)
		f := Born(1, 2, p)
		f.Rate = own
		rate := Rate(f, p)
		clock := d.below(1 << 30)
		lazy := d.below(3) == 0
		var row []sent
		for range 150 {
			next := f.Next
			switch kind := d.below(8); {
			case kind == 0:
				f = Rest(f, clock)
				clock += d.below(p.Refill) + d.below(2)*p.Refill
				awake := Wake(f, clock, p)
				if awake != f {
					woken++
				}
				f = awake
			case f.Credit <= 0:
				f = Fill(f, p)
				filled++
			default:
				if lazy {
					clock += d.below(1 << 30)
				}
				clock = Ready(f, clock)
				n := d.upTo(1 + uint64(max(p.Quantum, p.First)))
				if kind == 1 {
					n = uint64(f.Credit)
				}
				row = append(row, sent{clock, int(n)})
				f = charged(t, f, int(n), clock, p)
			}
			if f.Next < next {
				t.Fatalf("of %+v: Next went back from %d to %d", p, next, f.Next)
			}
		}
		closest = min(closest, holdsPace(t, p, rate, row))
	}
	if woken < 1000 || filled < 1000 || closest > 1 {
		t.Fatalf("only %d woke, %d were filled, and %d bytes below is the closest", woken, filled, closest)
	}
}

// P12.5: the burst may be just that: all credit but one, and the longest packet.
func TestBurst(t *testing.T) {
	for _, p := range []api.Pace{
		{Quantum: 100, First: 500},
		{Quantum: 500, First: 100},
		{Quantum: 1, First: 1},
		{Quantum: 1 << 20, First: 1 << 20, Most: 9},
		{Quantum: 1, First: 2, Low: 1000},
	} {
		f := Born(1, 2, p)
		f.Rate = 1000
		if p.Quantum > p.First {
			f = Wake(f, 0, p) // nothing has been sent yet
		}
		var row []sent
		for f.Credit > 1 {
			n := min(f.Credit-1, 1000)
			f = charged(t, f, n, 50, p)
			row = append(row, sent{50, n})
		}
		f = charged(t, f, api.MaxLen, 50, p)
		row = append(row, sent{50, api.MaxLen})
		if f.Debt != 0 || f.Next != by(50, uint64(max(p.Quantum, p.First)-1+api.MaxLen), Rate(f, p)) {
			t.Errorf("of %+v: %+v", p, f)
		}
		if least := holdsPace(t, p, Rate(f, p), row); least != 0 {
			t.Errorf("of %+v: %d bytes below the burst", p, least)
		}
	}
}

// P12.5: below Low each packet waits by itself, whatever credit it is given.
func TestSlow(t *testing.T) {
	d := &dice{state: 9}
	for range 300 {
		p, _ := fair(d)
		p.Most, p.Low = 0, 2+d.below(api.MaxRate-1)
		f := Born(1, 2, p)
		f.Rate = 1 + d.below(p.Low-1)
		clock := uint64(0)
		for range 50 {
			for f.Credit <= 0 {
				f = Fill(f, p)
			}
			n := d.upTo(9000)
			clock = Ready(f, clock)
			f = charged(t, f, int(n), clock, p)
			if f.Next != by(clock, n, f.Rate) || f.Debt != 0 || f.Credit > 0 {
				t.Fatalf("of %+v, %d bytes at %d: %+v", p, n, clock, f)
			}
		}
	}
}

// R1: of what nobody told, too, every call ends, and none panics.
func TestAnything(t *testing.T) {
	numbers := []uint64{0, 1, 1 << 40, 1<<63 - 1, 1 << 63, never - 1, never}
	counts := []int{math.MinInt, -1, 0, 1, math.MaxInt}
	for _, a := range numbers {
		for _, b := range numbers {
			for _, c := range numbers {
				for _, i := range counts {
					f := api.Flow{Sock: a, Cookie: b, Rate: c, Credit: i, Next: a, Debt: b, Age: c}
					p := api.Pace{Quantum: i, First: i, Refill: c, Most: a, Low: b}
					Right(p)
					Born(a, b, p)
					Rate(f, p)
					Ready(f, c)
					Fill(f, p)
					Rest(f, c)
					Wake(f, a, p)
					if g, e := Charge(f, i, a, p); (e != api.OK) != (i != 1) || e != api.OK && g != f {
						t.Fatalf("Charge of %d: %+v, %d", i, g, e)
					}
				}
			}
		}
	}
}
