package walk

import (
	"math"
	"slices"
	"testing"

	"sandglass/api"
	"sandglass/tree"
)

func key(at, seq uint64) api.Key { return api.Key{At: at, Seq: seq} }

func entry(at, seq uint64, v int) api.Entry { return api.Entry{Key: key(at, seq), V: v} }

// below tells whether a key is below another one, by the document's words.
func below(a, b api.Key) bool {
	if a.At != b.At {
		return a.At < b.At
	}
	return a.Seq < b.Seq
}

// grown is a tree with these entries and room for a few more.
func grown(t *testing.T, entries ...api.Entry) *tree.Tree {
	t.Helper()
	x, e := tree.New(len(entries) + 5)
	if e != api.OK {
		t.Fatal(e)
	}
	for _, one := range entries {
		put(t, x, one)
	}
	return x
}

func put(t *testing.T, x *tree.Tree, e api.Entry) {
	t.Helper()
	if err := x.Put(e.Key, e.V); err != api.OK {
		t.Fatalf("Put(%v): %d", e, err)
	}
}

// drawer draws numbers below n, always the same ones of the same seed.
func drawer(seed uint64) func(n int) int {
	state := seed + 0x9e3779b97f4a7c15
	return func(n int) int {
		state = state*6364136223846793005 + 1442695040888963407
		return int(state >> 33 % uint64(n))
	}
}

// scattered is a list in another order.
func scattered(list []api.Entry) []api.Entry {
	list = slices.Clone(list)
	draw := drawer(uint64(len(list)))
	for i := len(list) - 1; i > 0; i-- {
		j := draw(i + 1)
		list[i], list[j] = list[j], list[i]
	}
	return list
}

// edges are entries of keys at both ends of their numbers, and in the middle, rising; some of their numbers are 0.
func edges() []api.Entry {
	var list []api.Entry
	ends := []uint64{0, 1, 1<<63 - 1, 1 << 63, api.Never - 1, api.Never}
	for _, at := range ends {
		for _, seq := range ends {
			list = append(list, entry(at, seq, len(list)%7-3))
		}
	}
	return list
}

// few are walks' steps: none, one, some, as many as there are keys, and more.
func few(keys int) []int {
	return []int{math.MinInt, math.MinInt + 1, -keys, -2, -1, 0, 1, 2, 3, keys - 1, keys, keys + 1, 2*keys + 1, 1 << 32, math.MaxInt - 1, math.MaxInt}
}

// firstOf is the first n of a list, or as many as there are.
func firstOf(list []api.Entry, n int) []api.Entry {
	if n < 0 {
		n = 0
	}
	if n > len(list) {
		n = len(list)
	}
	return slices.Clone(list[:n])
}

// where is those of a list of which something holds.
func where(list []api.Entry, holds func(k api.Key) bool) []api.Entry {
	var out []api.Entry
	for _, e := range list {
		if holds(e.Key) {
			out = append(out, e)
		}
	}
	return out
}

// The walks by the chapter's words, of all keys, rising.

func wantFrom(all []api.Entry, k api.Key, n int) []api.Entry {
	return firstOf(where(all, func(x api.Key) bool { return x == k || below(k, x) }), n)
}

func wantUpto(all []api.Entry, at uint64, n int) []api.Entry {
	return firstOf(where(all, func(x api.Key) bool { return x.At <= at }), n)
}

func wantSweep(all []api.Entry, k api.Key, n int) ([]api.Entry, api.Key) {
	list := where(all, func(x api.Key) bool { return below(k, x) })
	list = append(list, where(all, func(x api.Key) bool { return !below(k, x) })...)
	list = firstOf(list, n)
	for _, e := range list {
		k = e.Key
	}
	return list, k
}

// The walks, held against lists.

func from(t *testing.T, x *tree.Tree, k api.Key, n int, want []api.Entry) {
	t.Helper()
	if got := From(x, k, n); !slices.Equal(got, want) {
		t.Fatalf("From(%v, %d): %v, not %v", k, n, got, want)
	}
}

func upto(t *testing.T, x *tree.Tree, at uint64, n int, want []api.Entry) {
	t.Helper()
	if got := Upto(x, at, n); !slices.Equal(got, want) {
		t.Fatalf("Upto(%d, %d): %v, not %v", at, n, got, want)
	}
}

func take(t *testing.T, x *tree.Tree, at uint64, n int, want []api.Entry) {
	t.Helper()
	if got := Take(x, at, n); !slices.Equal(got, want) {
		t.Fatalf("Take(%d, %d): %v, not %v", at, n, got, want)
	}
}

func sweep(t *testing.T, x *tree.Tree, k api.Key, n int, want []api.Entry, last api.Key) {
	t.Helper()
	if got, end := Sweep(x, k, n); !slices.Equal(got, want) || end != last {
		t.Fatalf("Sweep(%v, %d): %v, %v, not %v, %v", k, n, got, end, want, last)
	}
}

// holds: a tree has just these keys, rising, and room for as many as ever.
func holds(t *testing.T, x *tree.Tree, want []api.Entry, room int) {
	t.Helper()
	if all := x.All(); !slices.Equal(all, want) || x.Len() != len(want) || x.Room() != room {
		t.Fatalf("%d keys, room %d: %v, not %v and room %d", x.Len(), x.Room(), all, want, room)
	}
}

// taken takes keys away and holds what is told and what is left against all keys; what is left.
func taken(t *testing.T, x *tree.Tree, all []api.Entry, at uint64, n int) []api.Entry {
	t.Helper()
	room := x.Room()
	want := wantUpto(all, at, n)
	take(t, x, at, n, want)
	rest := slices.Clone(all[len(want):]) // all rises, so the first ones of those up to at are the first ones of all
	holds(t, x, rest, room)
	return rest
}

// asks holds all that From, Upto and Sweep tell from a key against all keys; nothing has changed behind it.
func asks(t *testing.T, x *tree.Tree, all []api.Entry, k api.Key, n int) {
	t.Helper()
	room, shape := x.Room(), x.Shape()
	from(t, x, k, n, wantFrom(all, k, n))
	upto(t, x, k.At, n, wantUpto(all, k.At, n))
	want, last := wantSweep(all, k, n)
	sweep(t, x, k, n, want, last)
	holds(t, x, all, room)
	if !slices.Equal(x.Shape(), shape) {
		t.Fatalf("asking from %v, %d steps, changed the tree", k, n)
	}
}

// The chapter's examples.
func TestExamples(t *testing.T) {
	one, three, five := entry(1, 0, 10), entry(3, 0, 30), entry(5, 0, 50)
	x := grown(t, three, one, five)
	from(t, x, key(2, 0), 5, []api.Entry{three, five})
	upto(t, x, 3, 9, []api.Entry{one, three})
	upto(t, x, 3, 1, []api.Entry{one})
	sweep(t, x, key(3, 0), 2, []api.Entry{five, one}, key(1, 0))
	sweep(t, x, key(9, 9), 5, []api.Entry{one, three, five}, key(5, 0))
	take(t, x, 1, 9, []api.Entry{one})
	if x.Len() != 2 {
		t.Fatal(x.Len())
	}
	holds(t, x, []api.Entry{three, five}, 8)
}

// No tree, one that New did not answer, and one without keys: nothing is told, and a sweep ends where it began.
func TestNothing(t *testing.T) {
	full := grown(t, edges()...)
	copied := *full
	for i, x := range []*tree.Tree{nil, {}, new(tree.Tree), &copied, grown(t)} {
		for range 2 { // the first round leaves nothing behind
			for _, e := range edges() {
				for _, n := range few(3) {
					from(t, x, e.Key, n, nil)
					upto(t, x, e.Key.At, n, nil)
					take(t, x, e.Key.At, n, nil)
					sweep(t, x, e.Key, n, nil, e.Key)
				}
			}
			if i < 4 {
				holds(t, x, nil, 0)
			} else {
				holds(t, x, nil, 5)
			}
		}
	}
	holds(t, full, edges(), len(edges())+5)
}

// P7.1: From a key that is there, from one that is not, between two, and from one above all.
func TestFrom(t *testing.T) {
	a, b, c, d := entry(4, 2, 1), entry(4, 7, -2), entry(9, 0, 0), entry(9, 3, 4)
	x := grown(t, c, a, d, b)
	for _, one := range []struct {
		k    api.Key
		n    int
		want []api.Entry
	}{
		{key(0, 0), 9, []api.Entry{a, b, c, d}},
		{key(4, 1), 9, []api.Entry{a, b, c, d}},
		{key(4, 2), 9, []api.Entry{a, b, c, d}},
		{key(4, 3), 9, []api.Entry{b, c, d}},
		{key(4, 7), 9, []api.Entry{b, c, d}},
		{key(4, 8), 9, []api.Entry{c, d}},
		{key(4, api.Never), 9, []api.Entry{c, d}},
		{key(6, 5), 9, []api.Entry{c, d}},
		{key(9, 0), 9, []api.Entry{c, d}},
		{key(9, 1), 9, []api.Entry{d}},
		{key(9, 3), 9, []api.Entry{d}},
		{key(9, 4), 9, nil},
		{key(10, 0), 9, nil},
		{key(api.Never, api.Never), 9, nil},
		{key(4, 2), 1, []api.Entry{a}},
		{key(4, 3), 1, []api.Entry{b}},
		{key(4, 2), 3, []api.Entry{a, b, c}},
		{key(4, 2), 4, []api.Entry{a, b, c, d}},
		{key(4, 2), 5, []api.Entry{a, b, c, d}},
		{key(9, 4), 1, nil},
		{key(4, 2), 0, nil},
		{key(4, 2), -1, nil},
	} {
		from(t, x, one.k, one.n, one.want)
	}
	holds(t, x, []api.Entry{a, b, c, d}, 9)
}

// P7.1: Upto and Take at an instant below all keys, at one that several share, between two, and at both ends of the numbers.
func TestUptoTake(t *testing.T) {
	a, b, c, d := entry(4, 0, 1), entry(4, 7, -2), entry(4, api.Never, 0), entry(9, 3, 4)
	all := []api.Entry{a, b, c, d}
	for _, one := range []struct {
		at   uint64
		n    int
		want []api.Entry
	}{
		{0, 9, nil},
		{3, 9, nil},
		{4, 9, []api.Entry{a, b, c}},
		{4, 1, []api.Entry{a}},
		{4, 2, []api.Entry{a, b}},
		{4, 3, []api.Entry{a, b, c}},
		{4, 4, []api.Entry{a, b, c}},
		{5, 9, []api.Entry{a, b, c}},
		{8, 9, []api.Entry{a, b, c}},
		{8, 2, []api.Entry{a, b}},
		{9, 9, all},
		{9, 3, []api.Entry{a, b, c}},
		{9, 4, all},
		{9, 5, all},
		{10, 9, all},
		{api.Never, 9, all},
		{api.Never, 1, []api.Entry{a}},
		{api.Never, 0, nil},
		{api.Never, -1, nil},
		{api.Never, math.MinInt, nil},
		{api.Never, math.MaxInt, all},
	} {
		x := grown(t, d, b, a, c)
		upto(t, x, one.at, one.n, one.want)
		holds(t, x, all, 9)
		take(t, x, one.at, one.n, one.want)
		holds(t, x, all[len(one.want):], 9)
	}
}

// P7.1: keys at the first instant, and at the last one.
func TestUptoTakeEnds(t *testing.T) {
	a, b, c, d := entry(0, 0, 5), entry(0, api.Never, 6), entry(api.Never, 0, 7), entry(api.Never, api.Never, 8)
	x := grown(t, d, a, c, b)
	upto(t, x, 0, 9, []api.Entry{a, b})
	upto(t, x, api.Never-1, 9, []api.Entry{a, b})
	upto(t, x, api.Never, 9, []api.Entry{a, b, c, d})
	take(t, x, 0, 1, []api.Entry{a})
	take(t, x, 0, 9, []api.Entry{b})
	take(t, x, 0, 9, nil)
	take(t, x, api.Never-1, 9, nil)
	holds(t, x, []api.Entry{c, d}, 9)
	take(t, x, api.Never, 1, []api.Entry{c})
	take(t, x, api.Never, 1, []api.Entry{d})
	take(t, x, api.Never, 1, nil)
	holds(t, x, nil, 9)
}

// P7.2: Sweep from a key that is there, from one that is not, from the last one, and from one above all, with fewer steps than keys, as many, and more.
func TestSweep(t *testing.T) {
	a, b, c, d := entry(4, 2, 1), entry(4, 7, -2), entry(9, 0, 0), entry(9, 3, 4)
	x := grown(t, c, a, d, b)
	for _, one := range []struct {
		k    api.Key
		want []api.Entry // all round
	}{
		{key(0, 0), []api.Entry{a, b, c, d}},
		{key(4, 1), []api.Entry{a, b, c, d}},
		{key(4, 2), []api.Entry{b, c, d, a}},
		{key(4, 3), []api.Entry{b, c, d, a}},
		{key(4, 7), []api.Entry{c, d, a, b}},
		{key(4, 8), []api.Entry{c, d, a, b}},
		{key(6, 0), []api.Entry{c, d, a, b}},
		{key(8, api.Never), []api.Entry{c, d, a, b}},
		{key(9, 0), []api.Entry{d, a, b, c}},
		{key(9, 1), []api.Entry{d, a, b, c}},
		{key(9, 3), []api.Entry{a, b, c, d}},
		{key(9, 4), []api.Entry{a, b, c, d}},
		{key(api.Never, api.Never), []api.Entry{a, b, c, d}},
	} {
		for n := 1; n <= 4; n++ {
			sweep(t, x, one.k, n, one.want[:n], one.want[n-1].Key)
		}
		for _, n := range []int{5, 6, 8, 100, math.MaxInt} {
			sweep(t, x, one.k, n, one.want, one.want[3].Key)
		}
		for _, n := range []int{0, -1, -4, math.MinInt} {
			sweep(t, x, one.k, n, nil, one.k)
		}
	}
	holds(t, x, []api.Entry{a, b, c, d}, 9)
}

// P7.1, P7.2: one key alone, at each end and between, asked for from each.
func TestAlone(t *testing.T) {
	for _, alone := range edges() {
		all := []api.Entry{alone}
		for _, e := range edges() {
			for _, n := range few(1) {
				x := grown(t, alone)
				asks(t, x, all, e.Key, n)
				taken(t, x, all, e.Key.At, n)
			}
		}
	}
}

// P7.1, P7.2: keys at both ends of the numbers, all of them and every second one there, asked for from each.
func TestEdges(t *testing.T) {
	every := edges()
	for part := range 3 {
		var all []api.Entry
		for i, e := range every {
			if part == 0 || i%2 == part-1 {
				all = append(all, e)
			}
		}
		for _, e := range every {
			for _, n := range few(len(all)) {
				x := grown(t, scattered(all)...)
				asks(t, x, all, e.Key, n)
				taken(t, x, all, e.Key.At, n)
			}
		}
	}
}

// P7.3: what Take tells call by call, however many steps each call has, is what Upto tells at once.
func TestTakeByCalls(t *testing.T) {
	all := edges()
	for _, at := range []uint64{0, 1, 2, 1 << 63, api.Never - 1, api.Never} {
		for n := 1; n <= len(all)+1; n++ {
			x := grown(t, scattered(all)...)
			want := Upto(x, at, math.MaxInt)
			var told []api.Entry
			for range len(all) + 1 {
				told = append(told, Take(x, at, n)...)
			}
			if !slices.Equal(told, want) {
				t.Fatalf("Take(%d, %d), call by call: %v, not %v", at, n, told, want)
			}
			holds(t, x, all[len(want):], len(all)+5)
		}
	}
}

// The other keys stay sound where some are taken away: they can be asked for, dropped, and put again.
func TestTakeLeaves(t *testing.T) {
	all := edges()
	for _, n := range []int{1, 5, 17, len(all)} {
		x := grown(t, scattered(all)...)
		rest := taken(t, x, all, api.Never, n)
		for _, e := range all[:n] {
			if v, ok := x.Get(e.Key); v != 0 || ok {
				t.Fatalf("%v is there, though it was taken", e)
			}
			put(t, x, e)
		}
		holds(t, x, all, len(all)+5)
		taken(t, x, all, api.Never, n)
		for _, e := range rest {
			if v, ok := x.Drop(e.Key); v != e.V || !ok {
				t.Fatalf("Drop(%v): %d, %v", e, v, ok)
			}
		}
		holds(t, x, nil, len(all)+5)
	}
}

// R3: what is told is in memory of its own, spare room included, and stays as it was told.
func TestApart(t *testing.T) {
	all := edges()
	x := grown(t, scattered(all)...)
	walks := []func() []api.Entry{
		func() []api.Entry { return From(x, key(0, 0), 5) },
		func() []api.Entry { return Upto(x, api.Never, 5) },
		func() []api.Entry { told, _ := Sweep(x, key(api.Never, api.Never), 5); return told },
		func() []api.Entry { return Take(x, api.Never, 5) },
	}
	var told [][]api.Entry
	for range 2 {
		for _, walk := range walks {
			told = append(told, walk())
		}
	}
	var was [][]api.Entry
	for _, list := range told {
		was = append(was, slices.Clone(list))
	}
	for i, list := range told {
		list = append(list, entry(7, 7, 7))
		list = list[:cap(list)]
		for j := range list {
			list[j] = entry(77, 77, 77)
		}
		whole := told[i][:cap(told[i])]
		for j := range whole {
			whole[j] = entry(77, 77, 77)
		}
		for j := i + 1; j < len(told); j++ {
			if !slices.Equal(told[j], was[j]) {
				t.Fatalf("answers %d and %d share memory", i, j)
			}
		}
	}
	holds(t, x, all[10:], len(all)+5)
	list := From(x, key(0, 0), 9)
	Take(x, api.Never, 4)
	put(t, x, entry(0, 5, 5))
	if !slices.Equal(list, all[10:19]) {
		t.Fatal("an answer changed behind what was done later:", list)
	}
}

// P7.3: walks that change nothing tell the same again.
func TestAsking(t *testing.T) {
	all := edges()
	x := grown(t, scattered(all)...)
	for range 3 {
		for i := range all {
			asks(t, x, all, all[i].Key, i)
		}
	}
}

// P7.1 to P7.3: as many keys as there may be.
func TestMost(t *testing.T) {
	const most = api.MaxNodes
	x, _ := tree.New(most)
	var all []api.Entry
	for i := range most {
		all = append(all, entry(uint64(i/4), uint64(i%4), i))
	}
	for i := range most {
		put(t, x, all[i*40503%most]) // odd, so that each comes once
	}
	for _, i := range []int{0, 1, most / 2, most - 2, most - 1} {
		for _, n := range []int{1, 1000, most - 1, most, most + 1, math.MaxInt} {
			asks(t, x, all, all[i].Key, n)
		}
	}
	end := key(9999, 1)
	seen := 0
	for seen < most {
		told, last := Sweep(x, end, 1024)
		for _, e := range told {
			if want := (9999*4 + 2 + seen) % most; e != all[want] {
				t.Fatalf("%v, not %v", e, all[want])
			}
			seen++
		}
		end = last
	}
	if end != key(9999, 1) {
		t.Fatal("all round, and not where it began:", end)
	}
	all = taken(t, x, all, 5, 7)
	all = taken(t, x, all, 8191, most)
	taken(t, x, all, api.Never, math.MaxInt)
}

// crowd is keys that stay, and a tree in which others come and go beside them.
type crowd struct {
	x         *tree.Tree
	stay      []api.Entry
	ats, seqs int // how many there may be of either
	draw      func(n int) int
}

// stays tells whether a key is one of those that stay.
func (c *crowd) stays(k api.Key) bool {
	return slices.ContainsFunc(c.stay, func(e api.Entry) bool { return e.Key == k })
}

// stir lets some keys come and go, of those that do not stay.
func (c *crowd) stir(t *testing.T, times int) {
	t.Helper()
	for range times {
		k := key(uint64(c.draw(c.ats)), uint64(c.draw(c.seqs)))
		if c.stays(k) {
			continue
		}
		if _, there := c.x.Drop(k); !there {
			put(t, c.x, api.Entry{Key: k, V: -1})
		}
	}
}

// sweep holds a sweep against all keys; where it ended.
func (c *crowd) sweep(t *testing.T, k api.Key, n int) ([]api.Entry, api.Key) {
	t.Helper()
	want, last := wantSweep(c.x.All(), k, n)
	sweep(t, c.x, k, n, want, last)
	return Sweep(c.x, k, n)
}

// follow holds the keys that stay, among those that are told, against going round them, from the given turn on; the turn behind them.
func (c *crowd) follow(t *testing.T, told []api.Entry, turn int) int {
	t.Helper()
	for _, e := range told {
		if !c.stays(e.Key) {
			continue
		}
		if want := c.stay[turn%len(c.stay)]; e != want {
			t.Fatalf("%v is told, and it is the turn of %v", e, want)
		}
		turn++
	}
	return turn
}

// P7.3: sweeps, each from where the one ahead of it ended, come to all keys again and again, while others come and go, the one at which a sweep ended among them.
func TestSweeps(t *testing.T) {
	const ats, seqs, rounds = 12, 4, 5
	for n := 1; n <= 40; n++ {
		for _, stirs := range []int{0, 1, 3, 30} {
			c := &crowd{ats: ats, seqs: seqs, draw: drawer(uint64(n*100 + stirs))}
			c.stay = []api.Entry{entry(0, 1, 0), entry(2, 0, 1), entry(2, 3, 2), entry(5, 1, 3), entry(9, 2, 4), entry(11, 3, 5)}
			c.x, _ = tree.New(ats * seqs)
			for _, e := range c.stay {
				put(t, c.x, e)
			}
			c.stir(t, 20)
			end, turn := key(0, 0), 0
			sweeps := rounds * (ats*seqs/n + 1) // at n keys a sweep, one round of all keys that there may be takes no more
			for range sweeps {
				told, last := c.sweep(t, end, n)
				end, turn = last, c.follow(t, told, turn)
				c.stir(t, stirs)
				if stirs > 1 && !c.stays(end) {
					c.x.Drop(end)
				}
			}
			if turn < rounds*len(c.stay) {
				t.Fatalf("%d steps, %d stirs: %d keys that stay in %d sweeps", n, stirs, turn, sweeps)
			}
		}
	}
}

// P7.3: however often a key comes right behind where the last sweep ended, the others get their turn.
func TestSweepsPressed(t *testing.T) {
	far := entry(5, 0, 9)
	x := grown(t, far)
	end := key(0, 0)
	for i := uint64(1); i <= 50; i++ {
		put(t, x, entry(0, i, 1))
		sweep(t, x, end, 1, []api.Entry{entry(0, i, 1)}, key(0, i))
		end = key(0, i)
		x.Drop(end)
	}
	sweep(t, x, end, 1, []api.Entry{far}, far.Key)
	sweep(t, x, far.Key, 1, []api.Entry{far}, far.Key)
}

// model is a tree's keys, rising, as they must be.
type model []api.Entry

func (m *model) put(e api.Entry) bool {
	i := len(where(*m, func(k api.Key) bool { return below(k, e.Key) }))
	if i < len(*m) && (*m)[i].Key == e.Key {
		return false
	}
	*m = slices.Insert(*m, i, e)
	return true
}

// P7.1 to P7.3: long runs of walks between keys that come and go, all answers held against the keys that must be there.
func TestModel(t *testing.T) {
	for _, c := range []struct{ ats, seqs, room int }{{1, 1, 1}, {2, 2, 4}, {3, 5, 9}, {20, 1, 20}, {12, 6, 60}, {200, 2, 100}} {
		draw := drawer(uint64(c.room))
		x, _ := tree.New(c.room)
		var m model
		for step := range 4000 {
			k := key(uint64(draw(c.ats)), uint64(draw(c.seqs)))
			if x.Len() < c.room && draw(3) > 0 {
				if fresh := m.put(api.Entry{Key: k, V: step}); fresh {
					put(t, x, api.Entry{Key: k, V: step})
				}
			}
			at := key(uint64(draw(c.ats+2)), uint64(draw(c.seqs+2)))
			n := draw(c.room+4) - 1
			asks(t, x, m, at, n)
			if draw(6) == 0 {
				m = taken(t, x, m, at.At, n)
			}
		}
	}
}
