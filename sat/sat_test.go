package sat

import (
	"math/big"
	"math/bits"
	"testing"

	"sandglass/api"
)

const never = uint64(api.Never)

// edges: numbers around which carries, halves of products and quotients turn.
var edges = []uint64{
	0, 1, 2, 3, 7, 10, 1500,
	1<<31 - 1, 1 << 31, 1<<32 - 1, 1 << 32, 1<<32 + 1,
	api.Second, api.MaxRate,
	1<<62 - 1, 1 << 62, 1<<63 - 1, 1 << 63, 1<<63 + 1,
	never / 3, never/2 - 1, never/2 + 1, never - 2, never - 1, never,
}

// scatter: n numbers of all sizes, the same ones in every run.
func scatter(n int) []uint64 {
	state := uint64(0x9e3779b97f4a7c15)
	out := make([]uint64, 0, n)
	for i := range n {
		state = state*6364136223846793005 + 1442695040888963407
		out = append(out, (state^state>>29)>>(uint(i*7)%64))
	}
	return out
}

// triples calls try with all triples of edges, with scattered ones, and with such as have a times b, by c, close to Never.
func triples(try func(a, b, c uint64)) {
	for _, a := range edges {
		for _, b := range edges {
			for _, c := range edges {
				try(a, b, c)
			}
		}
	}
	s := scatter(3000)
	for i := 2; i < len(s); i++ {
		a, b := s[i-2], s[i-1]
		try(a, b, s[i])
		high, _ := bits.Mul64(a, b)
		try(a, b, high)
		try(a, b, high+1)
		try(a, b, high+2)
	}
}

func exact(x uint64) *big.Int { return new(big.Int).SetUint64(x) }

// kept is what the document calls so.
func kept(x *big.Int) uint64 {
	if x.Sign() < 0 {
		return 0
	}
	if !x.IsUint64() {
		return never
	}
	return x.Uint64()
}

type row struct {
	name      string
	got, want uint64
}

func check(t *testing.T, rows []row) {
	t.Helper()
	for _, r := range rows {
		if r.got != r.want {
			t.Errorf("%s: got %d, want %d", r.name, r.got, r.want)
		}
	}
}

// P1.1, by hand.
func TestAddSubMulRows(t *testing.T) {
	check(t, []row{
		{"Add(0, 0)", Add(0, 0), 0},
		{"Add(3, 4)", Add(3, 4), 7},
		{"Add(Never, 0)", Add(never, 0), never},
		{"Add(Never, 1)", Add(never, 1), never},
		{"Add(1, Never)", Add(1, never), never},
		{"Add(Never-1, 1)", Add(never-1, 1), never},
		{"Add(Never-2, 1)", Add(never-2, 1), never - 1},
		{"Add(2^63, 2^63)", Add(1<<63, 1<<63), never},
		{"Add(2^63, 2^63-1)", Add(1<<63, 1<<63-1), never},
		{"Add(2^63, 2^63-2)", Add(1<<63, 1<<63-2), never - 1},
		{"Add(Never, Never)", Add(never, never), never},
		{"Sub(9, 4)", Sub(9, 4), 5},
		{"Sub(3, 5)", Sub(3, 5), 0},
		{"Sub(4, 4)", Sub(4, 4), 0},
		{"Sub(4, 5)", Sub(4, 5), 0},
		{"Sub(0, Never)", Sub(0, never), 0},
		{"Sub(Never, 0)", Sub(never, 0), never},
		{"Sub(Never, Never)", Sub(never, never), 0},
		{"Sub(Never, 1)", Sub(never, 1), never - 1},
		{"Mul(6, 7)", Mul(6, 7), 42},
		{"Mul(0, Never)", Mul(0, never), 0},
		{"Mul(Never, 0)", Mul(never, 0), 0},
		{"Mul(Never, 1)", Mul(never, 1), never},
		{"Mul(Never, 2)", Mul(never, 2), never},
		{"Mul(2^32, 2^31)", Mul(1<<32, 1<<31), 1 << 63},
		{"Mul(2^32, 2^32)", Mul(1<<32, 1<<32), never},
		{"Mul(2^32-1, 2^32+1)", Mul(1<<32-1, 1<<32+1), never},
		{"Mul(2^63-1, 2)", Mul(1<<63-1, 2), never - 1},
		{"Mul(Never, Never)", Mul(never, never), never},
	})
}

// P1.1, held against numbers without bound.
func TestAddSubMulExact(t *testing.T) {
	triples(func(a, b, _ uint64) {
		x, y := exact(a), exact(b)
		if got, want := Add(a, b), kept(new(big.Int).Add(x, y)); got != want {
			t.Fatalf("Add(%d, %d): got %d, want %d", a, b, got, want)
		}
		if got, want := Sub(a, b), kept(new(big.Int).Sub(x, y)); got != want {
			t.Fatalf("Sub(%d, %d): got %d, want %d", a, b, got, want)
		}
		if got, want := Mul(a, b), kept(new(big.Int).Mul(x, y)); got != want {
			t.Fatalf("Mul(%d, %d): got %d, want %d", a, b, got, want)
		}
	})
}

// P1.2, by hand.
func TestDownUpRows(t *testing.T) {
	check(t, []row{
		{"Down(10, 10, 3)", Down(10, 10, 3), 33},
		{"Up(10, 10, 3)", Up(10, 10, 3), 34},
		{"Down(10, 10, 5)", Down(10, 10, 5), 20},
		{"Up(10, 10, 5)", Up(10, 10, 5), 20},
		{"Down(0, 5, 7)", Down(0, 5, 7), 0},
		{"Up(0, 5, 7)", Up(0, 5, 7), 0},
		{"Down(1, 1, Never)", Down(1, 1, never), 0},
		{"Up(1, 1, Never)", Up(1, 1, never), 1},
		{"Down(1500, Second, 7)", Down(1500, api.Second, 7), 214285714285},
		{"Up(1500, Second, 7)", Up(1500, api.Second, 7), 214285714286},
		// Products far above Never that come back below it.
		{"Down(Never, Never-1, Never)", Down(never, never-1, never), never - 1},
		{"Up(Never, Never-1, Never)", Up(never, never-1, never), never - 1},
		{"Down(2^63, 4, 2^62)", Down(1<<63, 4, 1<<62), 8},
		{"Up(2^63, 4, 2^62)", Up(1<<63, 4, 1<<62), 8},
		{"Down(Never-1, Never-1, Never)", Down(never-1, never-1, never), never - 2},
		{"Up(Never-1, Never-1, Never)", Up(never-1, never-1, never), never - 1},
		// At Never, and beyond.
		{"Down(Never, Never, Never)", Down(never, never, never), never},
		{"Up(Never, Never, Never)", Up(never, never, never), never},
		{"Down(Never, 1, 1)", Down(never, 1, 1), never},
		{"Up(Never, 1, 1)", Up(never, 1, 1), never},
		{"Up(Never-1, 3, 3)", Up(never-1, 3, 3), never - 1},
		{"Down(2^63, 2, 1)", Down(1<<63, 2, 1), never},
		{"Down(2^63, 2^63, 2^62)", Down(1<<63, 1<<63, 1<<62), never},
		{"Down(Never, 3, 2)", Down(never, 3, 2), never},
		{"Down(Never, Never, Never-1)", Down(never, never, never-1), never},
		{"Down(Never, Never, 1)", Down(never, never, 1), never},
		{"Up(Never, Never, 1)", Up(never, never, 1), never},
		{"Down(2^32-1, 2^32+1, 2)", Down(1<<32-1, 1<<32+1, 2), 1<<63 - 1},
		{"Up(2^32-1, 2^32+1, 2)", Up(1<<32-1, 1<<32+1, 2), 1 << 63},
	})
}

// P1.2: quotients that are no whole number, just below Never and just above it, where one more would wrap round to 0.
func TestDownUpAtTheTop(t *testing.T) {
	for _, c := range []struct{ a, b, c, down, up uint64 }{
		{784967832923810707, 47, 2, never - 1, never},
		{13835058055282163711, 4, 3, never - 1, never},
		{10999847390405218613, 1677, 1000, never - 1, never},
		{1190112520884487201, 31, 2, never, never},
		{177942868878227186, 311, 3, never, never},
		{14113805718216948443, 1307, 1000, never, never},
	} {
		if got := Down(c.a, c.b, c.c); got != c.down {
			t.Errorf("Down(%d, %d, %d): got %d, want %d", c.a, c.b, c.c, got, c.down)
		}
		if got := Up(c.a, c.b, c.c); got != c.up {
			t.Errorf("Up(%d, %d, %d): got %d, want %d", c.a, c.b, c.c, got, c.up)
		}
	}
}

// P1.2: of c 0 both are Never, also for nothing.
func TestDownUpOfNothing(t *testing.T) {
	for _, a := range edges {
		for _, b := range edges {
			if Down(a, b, 0) != never || Up(a, b, 0) != never {
				t.Fatalf("of %d, %d, 0: got %d, %d", a, b, Down(a, b, 0), Up(a, b, 0))
			}
		}
	}
}

// P1.2, held against numbers without bound.
func TestDownUpExact(t *testing.T) {
	triples(func(a, b, c uint64) {
		if c == 0 {
			return
		}
		quotient, rest := new(big.Int).QuoRem(new(big.Int).Mul(exact(a), exact(b)), exact(c), new(big.Int))
		if got, want := Down(a, b, c), kept(quotient); got != want {
			t.Fatalf("Down(%d, %d, %d): got %d, want %d", a, b, c, got, want)
		}
		if rest.Sign() != 0 {
			quotient.Add(quotient, big.NewInt(1))
		}
		if got, want := Up(a, b, c), kept(quotient); got != want {
			t.Fatalf("Up(%d, %d, %d): got %d, want %d", a, b, c, got, want)
		}
	})
}

// P1.3, by hand.
func TestClampRows(t *testing.T) {
	check(t, []row{
		{"between", Clamp(5, 1, 9), 5},
		{"at low", Clamp(1, 1, 9), 1},
		{"below low", Clamp(0, 1, 9), 1},
		{"at high", Clamp(9, 1, 9), 9},
		{"above high", Clamp(10, 1, 9), 9},
		{"one number alone, below", Clamp(3, 4, 4), 4},
		{"one number alone, at it", Clamp(4, 4, 4), 4},
		{"one number alone, above", Clamp(5, 4, 4), 4},
		{"crossed, between", Clamp(5, 7, 3), 7},
		{"crossed, below both", Clamp(1, 7, 3), 7},
		{"crossed, above both", Clamp(9, 7, 3), 7},
		{"crossed by one", Clamp(9, 1, 0), 1},
		{"crossed, as far as can be", Clamp(never, never, 0), never},
		{"all there is", Clamp(never, 0, never), never},
		{"nothing", Clamp(0, 0, 0), 0},
	})
}

// P1.3: as the promise puts it, one case behind the other.
func TestClampExact(t *testing.T) {
	triples(func(x, low, high uint64) {
		want := x
		switch {
		case x < low, high < low:
			want = low
		case x > high:
			want = high
		}
		if got := Clamp(x, low, high); got != want {
			t.Fatalf("Clamp(%d, %d, %d): got %d, want %d", x, low, high, got, want)
		}
	})
}

// P1.4: in any order, and parted.
func TestAddMulAnyOrder(t *testing.T) {
	triples(func(a, b, c uint64) {
		if Add(a, b) != Add(b, a) || Mul(a, b) != Mul(b, a) {
			t.Fatalf("%d, %d: not the same turned round", a, b)
		}
		if Add(Add(a, b), c) != Add(a, Add(b, c)) {
			t.Fatalf("Add of %d, %d, %d: the order counts", a, b, c)
		}
		if Mul(Mul(a, b), c) != Mul(a, Mul(b, c)) {
			t.Fatalf("Mul of %d, %d, %d: the order counts", a, b, c)
		}
		if Mul(a, Add(b, c)) != Add(Mul(a, b), Mul(a, c)) {
			t.Fatalf("Mul of %d is not parted over Add of %d, %d", a, b, c)
		}
	})
}

// P1.4: greater numbers have no lesser answers; of Sub's b, and of c, no greater ones.
func TestGreaterNumbers(t *testing.T) {
	triples(func(a, b, c uint64) {
		for _, more := range []uint64{Add(a, 1), Add(a, b), never} {
			if Add(more, b) < Add(a, b) || Mul(more, b) < Mul(a, b) || Sub(more, b) < Sub(a, b) || Sub(b, more) > Sub(b, a) {
				t.Fatalf("Add, Mul or Sub fell from %d to %d beside %d", a, more, b)
			}
			if Down(more, b, c) < Down(a, b, c) || Down(b, more, c) < Down(b, a, c) || Up(more, b, c) < Up(a, b, c) || Up(b, more, c) < Up(b, a, c) {
				t.Fatalf("Down or Up fell from %d to %d beside %d, %d", a, more, b, c)
			}
			if Down(b, c, more) > Down(b, c, a) || Up(b, c, more) > Up(b, c, a) {
				t.Fatalf("Down or Up of %d, %d rose from c %d to %d", b, c, a, more)
			}
			if Clamp(more, b, c) < Clamp(a, b, c) || Clamp(b, more, c) < Clamp(b, a, c) || Clamp(b, c, more) < Clamp(b, c, a) {
				t.Fatalf("Clamp fell from %d to %d beside %d, %d", a, more, b, c)
			}
		}
	})
}

// P1.4: Up is Down, or one more; the same just if c divides, or both are Never.
func TestUpBesideDown(t *testing.T) {
	triples(func(a, b, c uint64) {
		down, up := Down(a, b, c), Up(a, b, c)
		if up != down && (down == never || up != down+1) {
			t.Fatalf("of %d, %d, %d: Down %d, Up %d", a, b, c, down, up)
		}
		divides := c != 0 && new(big.Int).Rem(new(big.Int).Mul(exact(a), exact(b)), exact(c)).Sign() == 0
		if same := divides || down == never && up == never; same != (down == up) {
			t.Fatalf("of %d, %d, %d: Down %d, Up %d, divides %v", a, b, c, down, up, divides)
		}
	})
}

// P1.4: Up(n, s, r) is the least t of which Down(t, r, s) is n or more.
func TestUpIsTheLeast(t *testing.T) {
	tried := 0
	triples(func(n, s, r uint64) {
		least := Up(n, s, r)
		if s == 0 || r == 0 || least == never {
			return
		}
		tried++
		if got := Down(least, r, s); got < n {
			t.Fatalf("Up(%d, %d, %d) is %d, of which Down is only %d", n, s, r, least, got)
		}
		if least > 0 && Down(least-1, r, s) >= n {
			t.Fatalf("Up(%d, %d, %d) is %d, and one less would do", n, s, r, least)
		}
	})
	if tried < 1000 {
		t.Fatalf("only %d were tried", tried)
	}
}
