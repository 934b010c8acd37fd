package bitmap

import (
	"math"
	"slices"
	"testing"

	"sandglass/api"
)

func fresh(t *testing.T, n int) *Bits {
	t.Helper()
	b, e := New(n)
	if b == nil || e != api.OK {
		t.Fatalf("New(%d): %v, %d", n, b, e)
	}
	return b
}

func set(t *testing.T, b *Bits, i int, want bool) {
	t.Helper()
	if got := b.Set(i); got != want {
		t.Fatalf("Set(%d): %v", i, got)
	}
}

func clearing(t *testing.T, b *Bits, i int, want bool) {
	t.Helper()
	if got := b.Clear(i); got != want {
		t.Fatalf("Clear(%d): %v", i, got)
	}
}

func setAll(t *testing.T, b *Bits, places ...int) {
	t.Helper()
	for _, i := range places {
		set(t, b, i, true)
	}
}

// leastOf is Next by the chapter's words, of marked places that rise.
func leastOf(marked []int, from int) (int, bool) {
	for _, i := range marked {
		if i >= from {
			return i, true
		}
	}
	return 0, false
}

// roundOf is Round by the chapter's words, of marked places that rise.
func roundOf(marked []int, from int) (int, bool) {
	if i, ok := leastOf(marked, from); ok {
		return i, true
	}
	if len(marked) > 0 {
		return marked[0], true
	}
	return 0, false
}

// looks holds Next and Round from a number against the marked places, which rise.
func looks(t *testing.T, b *Bits, from int, marked []int) {
	t.Helper()
	want, wantOK := leastOf(marked, from)
	if i, ok := b.Next(from); i != want || ok != wantOK {
		t.Fatalf("Next(%d): %d, %v, not %d, %v", from, i, ok, want, wantOK)
	}
	want, wantOK = roundOf(marked, from)
	if i, ok := b.Round(from); i != want || ok != wantOK {
		t.Fatalf("Round(%d): %d, %v, not %d, %v", from, i, ok, want, wantOK)
	}
}

// counts holds Len and All, and Has at each marked place and beside it, against the marked places, which rise.
func counts(t *testing.T, b *Bits, marked []int) {
	t.Helper()
	if got := b.Len(); got != len(marked) {
		t.Fatalf("Len(): %d, not %d", got, len(marked))
	}
	if got := b.All(); !slices.Equal(got, marked) {
		t.Fatalf("All(): %v, not %v", got, marked)
	}
	for _, i := range marked {
		for near := i - 1; near <= i+1; near++ {
			if _, want := slices.BinarySearch(marked, near); b.Has(near) != want {
				t.Fatalf("Has(%d): not %v", near, want)
			}
		}
	}
}

// has holds all that can be asked of a bitmap against its marked places, which rise.
func has(t *testing.T, b *Bits, marked ...int) {
	t.Helper()
	counts(t, b, marked)
	for _, from := range ends() {
		looks(t, b, from, marked)
	}
	for _, i := range marked {
		for near := i - 2; near <= i+2; near++ {
			looks(t, b, near, marked)
		}
	}
}

// sound holds what the floors say of one another: a mark stands for a word that is not 0.
func sound(t *testing.T, b *Bits) {
	t.Helper()
	for floor := range len(b.floors) - 1 {
		for i, word := range b.floors[floor] {
			if above := b.floors[floor+1][i/width]&mark(i) != 0; above != (word != 0) {
				t.Fatalf("floor %d, word %d: %x, above it %v", floor, i, word, above)
			}
		}
	}
	if top := b.floors[len(b.floors)-1]; len(top) != 1 {
		t.Fatalf("the highest floor has %d words", len(top))
	}
}

// ends are numbers from which nothing new is to be seen at any bitmap: both ends of the numbers, and what is far from all places.
func ends() []int {
	return []int{math.MinInt, math.MinInt + 1, -1 << 32, -api.MaxNodes, -65, -64, -63, -1, 0, api.MaxNodes - 1, api.MaxNodes, api.MaxNodes + 1, 1 << 18, 1 << 24, 1 << 32, math.MaxInt - 64, math.MaxInt - 63, math.MaxInt - 1, math.MaxInt}
}

// strange are places that there are not, of a bitmap of n.
func strange(n int) []int {
	out := []int{n, n + 1, n + 63, n + 64, (n + 63) / 64 * 64, (n + 63) / 64 * 4096}
	for _, i := range ends() {
		if i < 0 || i >= n {
			out = append(out, i)
		}
	}
	return slices.DeleteFunc(out, func(i int) bool { return i >= 0 && i < n })
}

// sizes are bitmaps of one word and more, of one floor and more, and the greatest.
func sizes() []int {
	return []int{1, 2, 62, 63, 64, 65, 127, 128, 129, 4095, 4096, 4097, 4160, 4161, 5000, api.MaxNodes - 64, api.MaxNodes - 1, api.MaxNodes}
}

// The chapter's examples.
func TestExamples(t *testing.T) {
	b := fresh(t, 200)
	setAll(t, b, 3, 150)
	for _, c := range []struct {
		from, next int
		ok         bool
	}{{0, 3, true}, {4, 150, true}, {151, 0, false}} {
		if i, ok := b.Next(c.from); i != c.next || ok != c.ok {
			t.Error(c, i, ok)
		}
	}
	if i, ok := b.Round(151); i != 3 || !ok {
		t.Error(i, ok)
	}
	set(t, b, 3, false)
	clearing(t, b, 3, true)
	if i, ok := b.Next(-5); i != 150 || !ok {
		t.Error(i, ok)
	}
	set(t, b, 200, false)
	has(t, b, 150)
}

// P8.1: numbers of places that may not be.
func TestNewRefused(t *testing.T) {
	for _, n := range []int{math.MinInt, math.MinInt + 1, -1 << 32, -api.MaxNodes, -64, -1, 0, api.MaxNodes + 1, api.MaxNodes + 2, 1 << 17, 1 << 32, 1<<32 + 1, math.MaxInt - 63, math.MaxInt} {
		if b, e := New(n); b != nil || e != api.ErrArg {
			t.Errorf("New(%d): %v, %d", n, b, e)
		}
	}
}

// P8.1: at first none of the places is marked, and there are so many of them.
func TestNew(t *testing.T) {
	for _, n := range sizes() {
		b := fresh(t, n)
		has(t, b)
		for i := range n {
			if b.Has(i) || b.Clear(i) {
				t.Fatalf("%d places: %d is marked at first", n, i)
			}
		}
		set(t, b, n-1, true)
		set(t, b, n, false)
		has(t, b, n-1)
	}
}

// P8.1: the floors are no higher and no wider than the places need.
func TestFloors(t *testing.T) {
	for n, want := range map[int][]int{1: {1}, 63: {1}, 64: {1}, 65: {2, 1}, 128: {2, 1}, 129: {3, 1}, 4096: {64, 1}, 4097: {65, 2, 1}, api.MaxNodes: {1024, 16, 1}} {
		var got []int
		for _, words := range fresh(t, n).floors {
			got = append(got, len(words))
		}
		if !slices.Equal(got, want) {
			t.Errorf("%d places: floors of %v words, not %v", n, got, want)
		}
	}
}

// P8.1: two bitmaps have nothing to do with each other.
func TestApart(t *testing.T) {
	a, b := fresh(t, 4097), fresh(t, 4097)
	setAll(t, a, 0, 4096)
	has(t, b)
	setAll(t, b, 0, 70)
	clearing(t, a, 0, true)
	has(t, a, 4096)
	has(t, b, 0, 70)
}

// R5: no bitmap, and such as New did not answer, at every call.
func TestNoBitmap(t *testing.T) {
	made := fresh(t, 100)
	setAll(t, made, 0, 99)
	copied := *made
	for _, b := range []*Bits{nil, {}, new(Bits), &copied} {
		for range 2 { // the first round leaves nothing behind
			for _, i := range append(ends(), 1, 50, 63, 64, 99) {
				set(t, b, i, false)
				if b.Has(i) {
					t.Fatalf("Has(%d)", i)
				}
				looks(t, b, i, nil)
				clearing(t, b, i, false)
			}
			has(t, b)
		}
	}
	has(t, made, 0, 99)
}

// P8.2: places that there are not are neither marked nor cleared, and change nothing.
func TestStrangePlaces(t *testing.T) {
	for _, n := range sizes() {
		b := fresh(t, n)
		for _, marked := range [][]int{nil, {n - 1}} {
			setAll(t, b, marked...)
			for _, i := range strange(n) {
				set(t, b, i, false)
				clearing(t, b, i, false)
				if b.Has(i) {
					t.Fatalf("%d places: Has(%d)", n, i)
				}
			}
			has(t, b, marked...)
			sound(t, b)
		}
	}
}

// P8.2: the first and the last place, marked twice and cleared twice.
func TestFirstAndLast(t *testing.T) {
	for _, n := range sizes()[1:] {
		b := fresh(t, n)
		set(t, b, n-1, true)
		set(t, b, n-1, false)
		has(t, b, n-1)
		set(t, b, 0, true)
		set(t, b, 0, false)
		has(t, b, 0, n-1)
		clearing(t, b, n-1, true)
		clearing(t, b, n-1, false)
		has(t, b, 0)
		clearing(t, b, 0, true)
		clearing(t, b, 0, false)
		has(t, b)
	}
}

// P8.3: from below all, from a marked place, from between two, from the last one, and from above it.
func TestNextAndRound(t *testing.T) {
	b := fresh(t, 5000)
	setAll(t, b, 4998, 7, 4096, 130)
	for _, c := range []struct {
		from, next int
		ok         bool
		round      int
	}{
		{math.MinInt, 7, true, 7}, {-1, 7, true, 7}, {0, 7, true, 7}, {6, 7, true, 7}, {7, 7, true, 7},
		{8, 130, true, 130}, {64, 130, true, 130}, {129, 130, true, 130}, {130, 130, true, 130},
		{131, 4096, true, 4096}, {4095, 4096, true, 4096}, {4096, 4096, true, 4096}, {4097, 4998, true, 4998},
		{4998, 4998, true, 4998}, {4999, 0, false, 7}, {5000, 0, false, 7}, {5001, 0, false, 7}, {math.MaxInt, 0, false, 7},
	} {
		if i, ok := b.Next(c.from); i != c.next || ok != c.ok {
			t.Errorf("Next(%d): %d, %v", c.from, i, ok)
		}
		if i, ok := b.Round(c.from); i != c.round || !ok {
			t.Errorf("Round(%d): %d, %v", c.from, i, ok)
		}
	}
	has(t, b, 7, 130, 4096, 4998)
}

// P8.3: where 0 is what is told, yes and no are apart.
func TestZeroIsMarked(t *testing.T) {
	b := fresh(t, 70)
	set(t, b, 0, true)
	for _, from := range []int{math.MinInt, -1, 0} {
		if i, ok := b.Next(from); i != 0 || !ok {
			t.Errorf("Next(%d): %d, %v", from, i, ok)
		}
	}
	for _, from := range []int{1, 69, 70, math.MaxInt} {
		if i, ok := b.Next(from); i != 0 || ok {
			t.Errorf("Next(%d): %d, %v", from, i, ok)
		}
		if i, ok := b.Round(from); i != 0 || !ok {
			t.Errorf("Round(%d): %d, %v", from, i, ok)
		}
	}
}

// P8.2, P8.3: each place alone, looked for from everywhere around it and from both ends of its words.
func TestOneMarked(t *testing.T) {
	for _, n := range []int{1, 63, 64, 65, 4096, 4097, 4200} {
		b := fresh(t, n)
		for i := range n {
			set(t, b, i, true)
			for _, from := range []int{math.MinInt, -1, 0, i/4096*4096 - 1, i/64*64 - 1, i / 64 * 64, i - 1, i, i + 1, i/64*64 + 63, i/64*64 + 64, i/4096*4096 + 4096, n - 1, n, math.MaxInt} {
				looks(t, b, from, []int{i})
			}
			counts(t, b, []int{i})
			clearing(t, b, i, true)
		}
		has(t, b)
	}
}

// P8.3: no place marked, from everywhere.
func TestNoneMarked(t *testing.T) {
	for _, n := range []int{1, 64, 65, 4096, 4097} {
		b := fresh(t, n)
		for from := -2; from < n+130; from++ {
			looks(t, b, from, nil)
		}
	}
}

// P8.2, P8.3: all places marked, and then cleared one by one.
func TestAllMarked(t *testing.T) {
	for _, n := range sizes() {
		b := fresh(t, n)
		var all []int
		for i := range n {
			set(t, b, i, true)
			all = append(all, i)
		}
		counts(t, b, all)
		for i := range n {
			if got, ok := b.Next(i); got != i || !ok {
				t.Fatalf("%d places: Next(%d): %d, %v", n, i, got, ok)
			}
		}
		for _, from := range ends() {
			looks(t, b, from, all)
		}
		for i := range n {
			clearing(t, b, i, true)
			if b.Len() != n-1-i {
				t.Fatalf("%d places: Len(): %d behind %d", n, b.Len(), i)
			}
			if got, ok := b.Round(0); ok != (i < n-1) || ok && got != i+1 || !ok && got != 0 {
				t.Fatalf("%d places: Round(0): %d, %v behind %d", n, got, ok, i)
			}
		}
		has(t, b)
	}
}

// P8.2, R3: what All tells is in memory of its own.
func TestAllApart(t *testing.T) {
	b := fresh(t, 300)
	setAll(t, b, 299, 5, 64)
	first, second := b.All(), b.All()
	for i := range first {
		first[i] = 1
	}
	first = append(first, 2, 3)
	if !slices.Equal(second, []int{5, 64, 299}) {
		t.Error(first, second)
	}
	has(t, b, 5, 64, 299)
	set(t, b, 100, true)
	clearing(t, b, 5, true)
	if !slices.Equal(second, []int{5, 64, 299}) {
		t.Error(second)
	}
	has(t, b, 64, 100, 299)
}

// P8.4: a place that is marked and cleared again leaves all as it was, floor by floor.
func TestSetAndClear(t *testing.T) {
	for _, marked := range [][]int{nil, {0}, {63}, {64}, {4095}, {4096}, {8191}, {0, 64, 4096, 8191}, {1, 2, 3, 130, 4097, 4160}} {
		b := fresh(t, 8192)
		setAll(t, b, marked...)
		before := make([][]uint64, len(b.floors))
		for floor, words := range b.floors {
			before[floor] = slices.Clone(words)
		}
		for i := range 8192 {
			if b.Has(i) {
				continue
			}
			set(t, b, i, true)
			clearing(t, b, i, true)
			if i%61 == 0 {
				has(t, b, marked...)
			}
			for floor, words := range b.floors {
				if !slices.Equal(words, before[floor]) {
					t.Fatalf("floor %d is another one behind %d", floor, i)
				}
			}
		}
		has(t, b, marked...)
	}
}

// drawer draws numbers below n, the same ones at each run.
func drawer(seed uint64) func(n int) int {
	state := seed + 0x9e3779b97f4a7c15
	return func(n int) int {
		state = state*6364136223846793005 + 1442695040888963407
		return int(state >> 33 % uint64(n))
	}
}

// listed is the marked places, rising, of a model that knows of each place whether it is.
func listed(model []bool) []int {
	var out []int
	for i, is := range model {
		if is {
			out = append(out, i)
		}
	}
	return out
}

// P8.4: Next, again and again from one above what it told, tells all marked places; Round goes on and begins anew.
func steps(t *testing.T, b *Bits, marked []int) {
	t.Helper()
	var told []int
	for i, ok := b.Next(math.MinInt); ok && len(told) <= len(marked); i, ok = b.Next(i + 1) {
		told = append(told, i)
	}
	if !slices.Equal(told, marked) {
		t.Fatalf("Next again and again: %v, not %v", told, marked)
	}
	from := 0
	for k := range 2 * len(marked) {
		i, ok := b.Round(from)
		if !ok || i != marked[k%len(marked)] {
			t.Fatalf("Round(%d): %d, %v, not %d", from, i, ok, marked[k%len(marked)])
		}
		from = i + 1
	}
}

// P8.1 to P8.4: long runs, held against a model by the chapter's words; marks grow many and few by turns.
func TestLongRuns(t *testing.T) {
	for seed, n := range []int{1, 2, 63, 64, 65, 130, 200, 4095, 4096, 4097, 5000, api.MaxNodes} {
		draw := drawer(uint64(seed))
		b, model := fresh(t, n), make([]bool, n)
		for step := range 4000 {
			i := draw(n)
			if draw(3) == 0 {
				i = min(i/64*64+draw(2)*63, n-1)
			}
			if few := step/500%2 == 1; draw(4) == 0 != few {
				clearing(t, b, i, model[i])
				model[i] = false
			} else {
				set(t, b, i, !model[i])
				model[i] = true
			}
			if step%97 != 0 {
				continue
			}
			marked := listed(model)
			counts(t, b, marked)
			steps(t, b, marked)
			sound(t, b)
			for range 20 {
				looks(t, b, draw(n+140)-70, marked)
			}
		}
		for _, i := range listed(model) {
			clearing(t, b, i, true)
		}
		has(t, b)
		sound(t, b)
	}
}
