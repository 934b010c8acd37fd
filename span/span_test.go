package span

import (
	"math/big"
	"testing"

	"sandglass/api"
)

const never = uint64(api.Never)

// edges: numbers around which products with a second, quotients by it, and slots turn.
var edges = []uint64{
	0, 1, 2, 3, 7, 10, 1000, 1500, api.MaxLen,
	api.Second - 1, api.Second, api.Second + 1,
	1<<32 - 1, 1 << 32, 1<<32 + 1,
	never / api.Second, never/api.Second + 1,
	api.MaxRate - 1, api.MaxRate,
	1<<63 - 1, 1 << 63, 1<<63 + 1,
	never / 3, never/2 + 2, never - api.Second, never - 2, never - 1, never,
}

// scatter: n numbers of all sizes, the same ones in every run.
func scatter(n int) []uint64 {
	state := uint64(0x2545f4914f6cdd1d)
	out := make([]uint64, 0, n)
	for i := range n {
		state = state*6364136223846793005 + 1442695040888963407
		out = append(out, (state^state>>31)>>(uint(i*11)%64))
	}
	return out
}

// pairs calls try with all pairs of edges, and with scattered ones.
func pairs(try func(a, b uint64)) {
	for _, a := range edges {
		for _, b := range edges {
			try(a, b)
		}
	}
	s := scatter(6000)
	for i := 1; i < len(s); i++ {
		try(s[i-1], s[i])
	}
}

// triples is pairs, with one number more.
func triples(try func(a, b, c uint64)) {
	for _, c := range edges {
		pairs(func(a, b uint64) { try(a, b, c) })
	}
}

func exact(x uint64) *big.Int { return new(big.Int).SetUint64(x) }

// byUp is a times b by c, rounded up, kept.
func byUp(a, b, c uint64) uint64 {
	quotient, rest := new(big.Int).QuoRem(new(big.Int).Mul(exact(a), exact(b)), exact(c), new(big.Int))
	if rest.Sign() != 0 {
		quotient.Add(quotient, big.NewInt(1))
	}
	return kept(quotient)
}

// byDown is a times b by c, rounded down, kept.
func byDown(a, b, c uint64) uint64 {
	return kept(new(big.Int).Quo(new(big.Int).Mul(exact(a), exact(b)), exact(c)))
}

func kept(x *big.Int) uint64 {
	if !x.IsUint64() {
		return never
	}
	return x.Uint64()
}

type row struct {
	name      string
	got, want uint64
}

func check(t *testing.T, rows []row) {
	t.Helper()
	for _, r := range rows {
		if r.got != r.want {
			t.Errorf("%s: got %d, want %d", r.name, r.got, r.want)
		}
	}
}

// The chapter's examples.
func TestExamples(t *testing.T) {
	check(t, []row{
		{"Time(1500, 1000)", Time(1500, 1000), 1500000000},
		{"Time(1, 3)", Time(1, 3), 333333334},
		{"Time(5, 0)", Time(5, 0), 0},
		{"Bytes(333333333, 3)", Bytes(333333333, 3), 0},
		{"Bytes(333333334, 3)", Bytes(333333334, 3), 1},
		{"Lesser(0, 7)", Lesser(0, 7), 7},
		{"Slot(10, 4)", Slot(10, 4), 3},
		{"Slot(8, 4)", Slot(8, 4), 2},
		{"Begin(3, 4)", Begin(3, 4), 12},
	})
}

// P2.1, by hand: Time.
func TestTimeRows(t *testing.T) {
	check(t, []row{
		{"nothing, of a rate", Time(0, 5), 0},
		{"nothing, of no rate", Time(0, 0), 0},
		{"all, of no rate", Time(never, 0), 0},
		{"one byte, at 1", Time(1, 1), api.Second},
		{"all that has room, at 1", Time(never/api.Second, 1), never / api.Second * api.Second},
		{"one more, at 1", Time(never/api.Second+1, 1), never},
		{"all, at 1", Time(never, 1), never},
		{"one byte, a unit of time each", Time(1, api.Second), 1},
		{"one byte, at less than that", Time(1, api.Second-1), 2},
		{"one byte, at more than that", Time(1, api.Second+1), 1},
		{"two bytes, at more than that", Time(2, api.Second+1), 2},
		{"one byte, at the greatest rate", Time(1, api.MaxRate), 1},
		{"a packet, at the greatest rate", Time(api.MaxLen, api.MaxRate), 60},
		{"all, a unit of time each", Time(never, api.Second), never},
		{"all, one less, a unit of time each", Time(never-1, api.Second), never - 1},
		{"all, at one more than that", Time(never, api.Second+1), 18446744055262807560},
		{"all, at all", Time(never, never), api.Second},
		{"one byte, at all", Time(1, never), 1},
		{"all, at one less", Time(never, never-1), api.Second + 1},
	})
}

// P2.1, by hand: Bytes.
func TestBytesRows(t *testing.T) {
	check(t, []row{
		{"no time, of a rate", Bytes(0, 5), 0},
		{"no time, of no rate", Bytes(0, 0), never},
		{"all time, of no rate", Bytes(never, 0), never},
		{"one unit of time, of no rate", Bytes(1, 0), never},
		{"a second, at 1", Bytes(api.Second, 1), 1},
		{"a unit less, at 1", Bytes(api.Second-1, 1), 0},
		{"all time, at 1", Bytes(never, 1), never / api.Second},
		{"a unit, a byte each", Bytes(1, api.Second), 1},
		{"a unit, at less than that", Bytes(1, api.Second-1), 0},
		{"a unit, at the greatest rate", Bytes(1, api.MaxRate), 1099},
		{"all time, a byte each", Bytes(never, api.Second), never},
		{"all time but one, a byte each", Bytes(never-1, api.Second), never - 1},
		{"all time, at one less", Bytes(never, api.Second-1), 18446744055262807541},
		{"all time, at one more", Bytes(never, api.Second+1), never},
		{"all time, at all", Bytes(never, never), never},
		{"a second, at all", Bytes(api.Second, never), never},
		{"a unit less, at all", Bytes(api.Second-1, never), 18446744055262807541},
		{"a unit more, at all", Bytes(api.Second+1, never), never},
	})
}

// P2.1, held against numbers without bound.
func TestTimeAndBytesExact(t *testing.T) {
	pairs(func(x, rate uint64) {
		if rate == 0 {
			return
		}
		if got, want := Time(x, rate), byUp(x, api.Second, rate); got != want {
			t.Fatalf("Time(%d, %d): got %d, want %d", x, rate, got, want)
		}
		if got, want := Bytes(x, rate), byDown(x, rate, api.Second); got != want {
			t.Fatalf("Bytes(%d, %d): got %d, want %d", x, rate, got, want)
		}
	})
}

// P2.1: of no rate, whatever is asked.
func TestNoRate(t *testing.T) {
	pairs(func(x, _ uint64) {
		if Time(x, 0) != 0 || Bytes(x, 0) != never {
			t.Fatalf("of %d: Time %d, Bytes %d", x, Time(x, 0), Bytes(x, 0))
		}
	})
}

// P2.2, by hand.
func TestLesserRows(t *testing.T) {
	check(t, []row{
		{"neither", Lesser(0, 0), 0},
		{"the first alone", Lesser(5, 0), 5},
		{"the second alone", Lesser(0, 5), 5},
		{"the first is less", Lesser(3, 5), 3},
		{"the second is less", Lesser(5, 3), 3},
		{"both the same", Lesser(4, 4), 4},
		{"1 and none", Lesser(1, 0), 1},
		{"none and 1", Lesser(0, 1), 1},
		{"1 and all", Lesser(1, never), 1},
		{"all and 1", Lesser(never, 1), 1},
		{"all and none", Lesser(never, 0), never},
		{"none and all", Lesser(0, never), never},
		{"all and one less", Lesser(never, never-1), never - 1},
		{"about the sign", Lesser(1<<63, 1<<63-1), 1<<63 - 1},
	})
}

// P2.2: one of the two, the same turned round, no greater than any that is a rate, and none only of none.
func TestLesserLaws(t *testing.T) {
	pairs(func(a, b uint64) {
		got := Lesser(a, b)
		if got != a && got != b || got != Lesser(b, a) {
			t.Fatalf("Lesser(%d, %d) is %d, turned round %d", a, b, got, Lesser(b, a))
		}
		if a != 0 && got > a || b != 0 && got > b || (got == 0) != (a == 0 && b == 0) {
			t.Fatalf("Lesser(%d, %d) is %d", a, b, got)
		}
	})
}

// P2.3, by hand: Slot.
func TestSlotRows(t *testing.T) {
	check(t, []row{
		{"the first instant", Slot(0, 8), 0},
		{"the one behind it", Slot(1, 8), 1},
		{"one ahead of a slot", Slot(7, 8), 1},
		{"where a slot begins", Slot(8, 8), 1},
		{"one behind that", Slot(9, 8), 2},
		{"width 1", Slot(9, 1), 9},
		{"width 0 counts as 1", Slot(9, 0), 9},
		{"width 0, the first instant", Slot(0, 0), 0},
		{"width 0, the last instant", Slot(never, 0), never},
		{"width 1, the last instant", Slot(never, 1), never},
		{"width 2, the last instant", Slot(never, 2), 1 << 63},
		{"width 2, one ahead of it", Slot(never-1, 2), 1<<63 - 1},
		{"width 3, which parts the last instant", Slot(never, 3), never / 3},
		{"width 3, one ahead of it", Slot(never-1, 3), never / 3},
		{"width 3, three ahead of it", Slot(never-3, 3), never/3 - 1},
		{"the greatest width of a wheel", Slot(never, api.MaxWidth), 1 << 24},
		{"all, the first instant", Slot(0, never), 0},
		{"all, the one behind it", Slot(1, never), 1},
		{"all, one ahead of the last", Slot(never-1, never), 1},
		{"all, the last instant", Slot(never, never), 1},
		{"one less, the last instant", Slot(never, never-1), 2},
	})
}

// P2.3, by hand: Begin.
func TestBeginRows(t *testing.T) {
	check(t, []row{
		{"the first slot", Begin(0, 8), 0},
		{"the next one", Begin(1, 8), 8},
		{"another", Begin(3, 8), 24},
		{"width 0 counts as 1", Begin(3, 0), 3},
		{"width 0, the first slot", Begin(0, 0), 0},
		{"width 0, the last slot", Begin(never, 0), never},
		{"width 1, the last slot", Begin(never, 1), never},
		{"width 1, one ahead of it", Begin(never-1, 1), never - 1},
		{"width 2, the last that has room", Begin(1<<63-1, 2), never - 1},
		{"width 2, the next one", Begin(1<<63, 2), never},
		{"width 3, at the last instant itself", Begin(never/3, 3), never},
		{"width 3, one slot ahead", Begin(never/3-1, 3), never - 3},
		{"width 3, one slot behind", Begin(never/3+1, 3), never},
		{"a product that would be 0 again", Begin(1<<40, 1<<40), never},
		{"a product that would be 1 again", Begin(never, never), never},
		{"all, the first slot", Begin(0, never), 0},
		{"all, the next one", Begin(1, never), never},
		{"all, the one behind that", Begin(2, never), never},
	})
}

// P2.3, held against numbers without bound; a width of 0 counts as 1.
func TestSlotAndBeginExact(t *testing.T) {
	pairs(func(x, width uint64) {
		counts := width
		if width == 0 {
			counts = 1
		}
		if got, want := Slot(x, width), byUp(x, 1, counts); got != want {
			t.Fatalf("Slot(%d, %d): got %d, want %d", x, width, got, want)
		}
		if got, want := Begin(x, width), byDown(x, counts, 1); got != want {
			t.Fatalf("Begin(%d, %d): got %d, want %d", x, width, got, want)
		}
	})
}

// P2.4: Time is the least one that is worth n bytes.
func TestTimeIsTheLeast(t *testing.T) {
	tried := 0
	pairs(func(n, rate uint64) {
		least := Time(n, rate)
		if rate == 0 || least == never {
			return
		}
		tried++
		if got := Bytes(least, rate); got < n {
			t.Fatalf("Time(%d, %d) is %d, which is worth only %d", n, rate, least, got)
		}
		if least > 0 && Bytes(least-1, rate) >= n {
			t.Fatalf("Time(%d, %d) is %d, and one less would do", n, rate, least)
		}
	})
	if tried < 1000 {
		t.Fatalf("only %d were tried", tried)
	}
}

// P2.4: two times, one behind the other, are worth no less than both by themselves, and at most one byte more.
func TestTimesTogether(t *testing.T) {
	more, same := 0, 0
	triples(func(first, second, rate uint64) {
		if first > never-second {
			return
		}
		both := Bytes(first+second, rate)
		if both == never {
			return
		}
		apart := Bytes(first, rate) + Bytes(second, rate)
		switch both {
		case apart:
			same++
		case apart + 1:
			more++
		default:
			t.Fatalf("at %d, %d and %d are worth %d, together %d", rate, first, second, apart, both)
		}
	})
	if more < 100 || same < 100 {
		t.Fatalf("only %d of one byte more, and %d of none", more, same)
	}
}

// P2.4: a greater rate takes no more time, and is worth no less.
func TestGreaterRates(t *testing.T) {
	triples(func(x, rate, other uint64) {
		less, more := min(rate, other), max(rate, other)
		if less == 0 {
			return
		}
		if Time(x, more) > Time(x, less) {
			t.Fatalf("%d bytes take %d at %d, and %d at %d", x, Time(x, less), less, Time(x, more), more)
		}
		if Bytes(x, more) < Bytes(x, less) {
			t.Fatalf("%d is worth %d at %d, and %d at %d", x, Bytes(x, less), less, Bytes(x, more), more)
		}
	})
}

// P2.4: a slot does not begin ahead of its instant, and less than a width behind it; the slot one ahead of it begins ahead of the instant.
func TestSlotsBegin(t *testing.T) {
	tried := 0
	pairs(func(at, width uint64) {
		slot := Slot(at, width)
		begin := Begin(slot, width)
		if begin < at {
			t.Fatalf("Slot(%d, %d) is %d, which begins ahead of it, at %d", at, width, slot, begin)
		}
		if slot > 0 && Begin(slot-1, width) >= at {
			t.Fatalf("Slot(%d, %d) is %d, and the one ahead of it would do", at, width, slot)
		}
		if begin == never {
			return
		}
		tried++
		if behind := begin - at; behind >= max(width, 1) {
			t.Fatalf("Slot(%d, %d) is %d, which begins %d behind it", at, width, slot, behind)
		}
	})
	if tried < 1000 {
		t.Fatalf("only %d were tried", tried)
	}
}

// P2.3: an instant at which a slot begins is in that slot.
func TestSlotOfABegin(t *testing.T) {
	pairs(func(slot, width uint64) {
		if begin := Begin(slot, width); begin < never && Slot(begin, width) != slot {
			t.Fatalf("the slot %d of width %d begins at %d, which is in %d", slot, width, begin, Slot(begin, width))
		}
	})
}
