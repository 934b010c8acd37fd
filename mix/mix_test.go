package mix

import (
	"math/big"
	"math/bits"
	"testing"

	"sandglass/api"
)

const never = uint64(api.Never)

// edges: numbers at which folding and going round turn.
var edges = []uint64{
	0, 1, 2, 3, 7, 12345, api.Second,
	1<<29 - 1, 1 << 29, 1<<29 + 1,
	1<<31 - 1, 1 << 31, 1<<32 - 1, 1 << 32, 1<<32 + 1,
	1<<35 - 1, 1 << 35, 1 << 58, 1<<61 - 1,
	1<<63 - 1, 1 << 63, 1<<63 + 1, 1<<63 + 1<<31,
	0x5555555555555555, 0xaaaaaaaaaaaaaaaa, 0x00000000ffffffff, 0xffffffff00000000,
	factor, undo, never - 2, never - 1, never,
}

// scatter: n numbers of all sizes, the same ones in every run.
func scatter(n int) []uint64 {
	state := uint64(0x2545f4914f6cdd1d)
	out := make([]uint64, 0, n)
	for i := range n {
		state = state*6364136223846793005 + 1442695040888963407
		out = append(out, (state^state>>31)>>(uint(i*11)%64))
	}
	return out
}

// each calls try with the edges, with each single bit, and with scattered numbers.
func each(try func(x uint64)) {
	for _, x := range edges {
		try(x)
	}
	for i := range 64 {
		try(1 << i)
	}
	for _, x := range scatter(6000) {
		try(x)
	}
}

// bitFold folds as the chapter's words say it: bit by bit.
func bitFold(x uint64, k int) uint64 {
	out := x
	for i := range 64 - k {
		if x>>(i+k)&1 == 1 {
			out ^= 1 << i
		}
	}
	return out
}

// roundTimes takes a number times the factor in unbounded numbers, and cuts the lowest 64 bits off.
func roundTimes(x uint64) uint64 {
	f, _ := new(big.Int).SetString("11400714819323198485", 10)
	product := new(big.Int).Mul(new(big.Int).SetUint64(x), f)
	return product.And(product, new(big.Int).SetUint64(never)).Uint64()
}

// mixed is what Mix must be, by the words.
func mixed(x uint64) uint64 {
	x = bitFold(x, 32)
	x = roundTimes(x)
	x = bitFold(x, 29)
	x = roundTimes(x)
	return bitFold(x, 32)
}

// P3.1: what a number is mixed to.
func TestMix(t *testing.T) {
	each(func(x uint64) {
		if got, want := Mix(x), mixed(x); got != want {
			t.Errorf("Mix(%d): %d, not %d", x, got, want)
		}
	})
}

// P3.1: what some numbers were mixed to by other means, so that neither Mix nor the test's own way of mixing may drift.
func TestMixRows(t *testing.T) {
	rows := []struct{ x, want uint64 }{
		{0, 0},
		{1, 15611585526111428964},
		{12345, 10331225207517589461},
		{1 << 63, 11887256293596553850},
		{never, 12812423456900771192},
	}
	for _, r := range rows {
		if got := Mix(r.x); got != r.want {
			t.Errorf("Mix(%d): %d, not %d", r.x, got, r.want)
		}
		if got := Back(r.want); got != r.x {
			t.Errorf("Back(%d): %d, not %d", r.want, got, r.x)
		}
	}
}

// P3.1, P3.3: Back undoes Mix, and Mix undoes Back, so unlike numbers are mixed to unlike ones, and to each number some other one is mixed.
func TestBack(t *testing.T) {
	each(func(x uint64) {
		if got := Back(Mix(x)); got != x {
			t.Errorf("Back(Mix(%d)): %d", x, got)
		}
		if got := Mix(Back(x)); got != x {
			t.Errorf("Mix(Back(%d)): %d", x, got)
		}
		if got := mixed(Back(x)); got != x {
			t.Errorf("Back(%d) is mixed to %d", x, got)
		}
	})
	if Mix(0) != 0 || Back(0) != 0 {
		t.Error("0 must stay 0:", Mix(0), Back(0))
	}
}

// P3.3: numbers that differ in one bit are mixed to, and come back from, numbers that differ.
func TestOneBit(t *testing.T) {
	each(func(x uint64) {
		for i := range 64 {
			other := x ^ 1<<i
			if Mix(x) == Mix(other) {
				t.Errorf("%d and %d are mixed to the same", x, other)
			}
			if Back(x) == Back(other) {
				t.Errorf("%d and %d come back to the same", x, other)
			}
		}
	})
}

// P3.3: numbers in a row are mixed to numbers of which no two are the same.
func TestUnlike(t *testing.T) {
	met := map[uint64]uint64{}
	for x := range uint64(1 << 16) {
		y := Mix(x)
		if first, ok := met[y]; ok {
			t.Fatalf("%d and %d are both mixed to %d", first, x, y)
		}
		met[y] = x
	}
}

// P3.1: a number is folded, and unfolded, by as many places as the chapter says, and by any others.
func TestFold(t *testing.T) {
	places := []int{29, 32, 1, 2, 3, 16, 21, 22, 31, 33, 58, 63, 64}
	for _, k := range places {
		each(func(x uint64) {
			folded := fold(x, k)
			if k < 64 && folded != bitFold(x, k) {
				t.Errorf("%d folded by %d: %d", x, k, folded)
			}
			if got := unfold(folded, k); got != x {
				t.Errorf("%d folded forth and back by %d: %d", x, k, got)
			}
			if got := fold(unfold(x, k), k); got != x {
				t.Errorf("%d folded back and forth by %d: %d", x, k, got)
			}
		})
	}
}

// P3.1: each step is undone by the one beside it.
func TestSteps(t *testing.T) {
	for i, s := range steps() {
		each(func(x uint64) {
			if got := s.back(s.forth(x)); got != x {
				t.Errorf("step %d: %d comes back as %d", i, x, got)
			}
		})
	}
}

// P3.2: the highest bits of the mixed number, and the chapter's examples.
func TestBucket(t *testing.T) {
	each(func(x uint64) {
		turned := bits.Reverse64(mixed(x))
		want := 0
		for n := range api.MaxBits + 1 {
			if got := Bucket(x, n); got != want {
				t.Errorf("Bucket(%d, %d): %d, not %d", x, n, got, want)
			}
			want = want*2 + int(turned>>n&1)
		}
	})
	if got := Bucket(0, 5); got != 0 {
		t.Error("Bucket(0, 5):", got)
	}
	if got := Bucket(7, 0); got != 0 {
		t.Error("Bucket(7, 0):", got)
	}
}

// P3.2: no bucket has fewer than no bits, nor more than MaxBits.
func TestBucketWrong(t *testing.T) {
	const most = int(^uint(0) >> 1)
	wrong := []int{-1, -2, -16, -63, -64, -65, -most, -most - 1, api.MaxBits + 1, 17, 18, 32, 63, 64, 65, most}
	for _, n := range wrong {
		for _, x := range edges {
			if got := Bucket(x, n); got != -1 {
				t.Errorf("Bucket(%d, %d): %d, not -1", x, n, got)
			}
		}
	}
	for _, n := range []int{0, api.MaxBits} {
		for _, x := range edges {
			if got := Bucket(x, n); got < 0 || got >= 1<<n {
				t.Errorf("Bucket(%d, %d): %d", x, n, got)
			}
		}
	}
}

// P3.3: a bucket of more bits begins with the bucket of fewer.
func TestBucketBegins(t *testing.T) {
	each(func(x uint64) {
		for more := range api.MaxBits + 1 {
			for fewer := range more + 1 {
				if got, want := Bucket(x, more)>>(more-fewer), Bucket(x, fewer); got != want {
					t.Errorf("%d: the bucket of %d bits begins with %d, that of %d is %d", x, more, got, fewer, want)
				}
			}
		}
	})
}

// P3.3: each bucket has some numbers: the first and the last one that is mixed into it.
func TestBucketEach(t *testing.T) {
	for n := range api.MaxBits + 1 {
		for k := range 1 << n {
			first := uint64(k) << (64 - n)
			last := first + never>>n
			if got := Bucket(Back(first), n); got != k {
				t.Fatalf("the first number of bucket %d of %d bits is in %d", k, n, got)
			}
			if got := Bucket(Back(last), n); got != k {
				t.Fatalf("the last number of bucket %d of %d bits is in %d", k, n, got)
			}
		}
	}
}
