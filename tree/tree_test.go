package tree

import (
	"math"
	"math/bits"
	"slices"
	"testing"

	"sandglass/api"
)

func key(at, seq uint64) api.Key { return api.Key{At: at, Seq: seq} }

// below tells whether a key is below another one, by the chapter's words.
func below(a, b api.Key) bool {
	if a.At != b.At {
		return a.At < b.At
	}
	return a.Seq < b.Seq
}

func fresh(t *testing.T, room int) *Tree {
	t.Helper()
	x, e := New(room)
	if x == nil || e != api.OK {
		t.Fatalf("New(%d): %v, %d", room, x, e)
	}
	return x
}

func put(t *testing.T, x *Tree, k api.Key, v int, want api.Errno) {
	t.Helper()
	if e := x.Put(k, v); e != want {
		t.Fatalf("Put(%v, %d): %d, not %d", k, v, e, want)
	}
}

func drop(t *testing.T, x *Tree, k api.Key, want int) {
	t.Helper()
	if v, ok := x.Drop(k); v != want || !ok {
		t.Fatalf("Drop(%v): %d, %v, not %d", k, v, ok, want)
	}
}

func dropNone(t *testing.T, x *Tree, k api.Key) {
	t.Helper()
	if v, ok := x.Drop(k); v != 0 || ok {
		t.Fatalf("Drop(%v): %d, %v, though it is not there", k, v, ok)
	}
}

func get(t *testing.T, x *Tree, k api.Key, want int, there bool) {
	t.Helper()
	if v, ok := x.Get(k); v != want || ok != there {
		t.Fatalf("Get(%v): %d, %v, not %d, %v", k, v, ok, want, there)
	}
}

func first(t *testing.T, x *Tree, want api.Entry, there bool) {
	t.Helper()
	if e, ok := x.First(); e != want || ok != there {
		t.Fatalf("First(): %v, %v, not %v, %v", e, ok, want, there)
	}
}

func next(t *testing.T, x *Tree, k api.Key, want api.Entry, there bool) {
	t.Helper()
	if e, ok := x.Next(k); e != want || ok != there {
		t.Fatalf("Next(%v): %v, %v, not %v, %v", k, e, ok, want, there)
	}
}

// twigs is a shape, and below each node the nodes that stand right below it, by side; -1: none.
type twigs struct {
	nodes []api.Twig
	kids  [][2]int
	root  int
}

// look reads a tree's shape; each node has one above it at most, and at each side one right below it at most.
func look(t *testing.T, x *Tree) twigs {
	t.Helper()
	s := twigs{nodes: x.Shape(), root: -1}
	for range s.nodes {
		s.kids = append(s.kids, [2]int{-1, -1})
	}
	for i, n := range s.nodes {
		if i > 0 && !below(s.nodes[i-1].Key, n.Key) {
			t.Fatalf("the shape's keys do not rise: %v, %v", s.nodes[i-1], n)
		}
		if n.Up < -1 || n.Up >= len(s.nodes) || n.Up == i {
			t.Fatalf("above %d of %d stands %d", i, len(s.nodes), n.Up)
		}
		if n.Up == -1 {
			if s.root >= 0 {
				t.Fatalf("two roots: %d, %d", s.root, i)
			}
			s.root = i
			continue
		}
		side := 0
		if i > n.Up {
			side = 1
		}
		if s.kids[n.Up][side] >= 0 {
			t.Fatalf("two right below %d, at one side: %d, %d", n.Up, s.kids[n.Up][side], i)
		}
		s.kids[n.Up][side] = i
	}
	if len(s.nodes) > 0 && s.root < 0 {
		t.Fatal("no root")
	}
	return s
}

// way goes down from a node, deep nodes below the root's own place, below and of which stand just the nodes from low to high; how many black ones are on each way down from it.
func (s twigs) way(t *testing.T, at, low, high, deep int) int {
	t.Helper()
	if at < 0 {
		if low < high {
			t.Fatalf("%d to %d are missing below where they belong", low, high)
		}
		return 0
	}
	if at < low || at >= high {
		t.Fatalf("%d stands below where %d to %d belong", at, low, high)
	}
	if most := 2 * bits.Len(uint(len(s.nodes)+1)); deep > most {
		t.Fatalf("%d of %d is %d deep, and may be %d", at, len(s.nodes), deep, most)
	}
	n := s.nodes[at]
	if n.Red && (n.Up < 0 || s.nodes[n.Up].Red) {
		t.Fatalf("%d is red, and above it is no black one", at)
	}
	left := s.way(t, s.kids[at][0], low, at, deep+1)
	right := s.way(t, s.kids[at][1], at+1, high, deep+1)
	if left != right {
		t.Fatalf("below %d are %d black ones at one side, %d at the other one", at, left, right)
	}
	if n.Red {
		return left
	}
	return left + 1
}

// sound: the shape is a red-black tree's, and no key is too deep.
func sound(t *testing.T, x *Tree) twigs {
	t.Helper()
	s := look(t, x)
	s.way(t, s.root, 0, len(s.nodes), 1)
	return s
}

// holds holds all that is told of all keys at once against those that must be there, rising.
func holds(t *testing.T, x *Tree, want []api.Entry) {
	t.Helper()
	if x.Len() != len(want) {
		t.Fatalf("Len(): %d, not %d", x.Len(), len(want))
	}
	if all := x.All(); !slices.Equal(all, want) {
		t.Fatalf("All(): %v, not %v", all, want)
	}
	s := sound(t, x)
	if len(s.nodes) != len(want) {
		t.Fatalf("%d nodes, not %d", len(s.nodes), len(want))
	}
	for i, n := range s.nodes {
		if n.Key != want[i].Key {
			t.Fatalf("node %d is of %v, not of %v", i, n.Key, want[i].Key)
		}
	}
	if len(want) == 0 {
		first(t, x, api.Entry{}, false)
		return
	}
	first(t, x, want[0], true)
}

// answers holds what is told of each key against those that must be there, rising.
func answers(t *testing.T, x *Tree, want []api.Entry) {
	t.Helper()
	holds(t, x, want)
	for i, e := range want {
		get(t, x, e.Key, e.V, true)
		if i+1 < len(want) {
			next(t, x, e.Key, want[i+1], true)
		} else {
			next(t, x, e.Key, api.Entry{}, false)
		}
	}
}

// grown is a tree into which the keys At, 0 are put one after the other, each with At and 1000 as its number.
func grown(t *testing.T, room int, ats ...int) *Tree {
	t.Helper()
	x := fresh(t, room)
	for _, at := range ats {
		put(t, x, key(uint64(at), 0), at+1000, api.OK)
	}
	return x
}

// entries are what stands in a grown tree.
func entries(ats ...int) []api.Entry {
	list := []api.Entry{}
	for _, at := range slices.Sorted(slices.Values(ats)) {
		list = append(list, api.Entry{Key: key(uint64(at), 0), V: at + 1000})
	}
	return list
}

// without is a list without one of it.
func without(list []int, x int) []int {
	return slices.DeleteFunc(slices.Clone(list), func(y int) bool { return y == x })
}

// orders are orders of the numbers from 0 to n: rising, falling, from both ends, from the middle, and scattered ones.
func orders(n int) [][]int {
	var list [][]int
	up := make([]int, n)
	for i := range up {
		up[i] = i
	}
	down := slices.Clone(up)
	slices.Reverse(down)
	var ends []int
	for i := range n {
		if i%2 == 0 {
			ends = append(ends, i/2)
		} else {
			ends = append(ends, n-1-i/2)
		}
	}
	middle := slices.Clone(ends)
	slices.Reverse(middle)
	list = append(list, up, down, ends, middle)
	draw := drawer(uint64(n))
	for range 3 {
		scattered := slices.Clone(up)
		for i := n - 1; i > 0; i-- {
			j := draw(i + 1)
			scattered[i], scattered[j] = scattered[j], scattered[i]
		}
		list = append(list, scattered)
	}
	return list
}

// drawer draws numbers below n, always the same ones of the same seed.
func drawer(seed uint64) func(n int) int {
	state := seed + 0x9e3779b97f4a7c15
	return func(n int) int {
		state = state*6364136223846793005 + 1442695040888963407
		return int(state >> 33 % uint64(n))
	}
}

// permutations are all orders of the numbers from 0 to n.
func permutations(n int) [][]int {
	if n == 0 {
		return [][]int{{}}
	}
	var list [][]int
	for _, p := range permutations(n - 1) {
		for i := range n {
			list = append(list, slices.Insert(slices.Clone(p), i, n-1))
		}
	}
	return list
}

// The chapter's examples.
func TestExamples(t *testing.T) {
	x := fresh(t, 2)
	put(t, x, key(5, 0), 50, api.OK)
	put(t, x, key(3, 9), 39, api.OK)
	first(t, x, api.Entry{Key: key(3, 9), V: 39}, true)
	next(t, x, key(3, 9), api.Entry{Key: key(5, 0), V: 50}, true)
	next(t, x, key(4, 0), api.Entry{Key: key(5, 0), V: 50}, true)
	next(t, x, key(5, 0), api.Entry{}, false)
	put(t, x, key(3, 9), 1, api.ErrHave)
	put(t, x, key(1, 0), 1, api.ErrFull)
	drop(t, x, key(3, 9), 39)
	first(t, x, api.Entry{Key: key(5, 0), V: 50}, true)
	answers(t, x, []api.Entry{{Key: key(5, 0), V: 50}})
}

// edges are keys at both ends of their numbers, rising, and such as stand in the middle.
func edges() []api.Key {
	var list []api.Key
	ends := []uint64{0, 1, 1<<32 - 1, 1 << 32, 1<<63 - 1, 1 << 63, 1<<63 + 1, api.Never - 1, api.Never}
	for _, at := range ends {
		for _, seq := range ends {
			list = append(list, key(at, seq))
		}
	}
	return list
}

// R5: no tree, and such as New did not answer, a copy among them, at every call.
func TestNoTree(t *testing.T) {
	one := grown(t, 9, 4, 2, 7)
	copied := *one
	for _, x := range []*Tree{nil, {}, new(Tree), &copied} {
		for range 2 { // the first round leaves nothing behind
			for i, k := range append(edges(), key(2, 0), key(4, 0)) {
				put(t, x, k, i, api.ErrNil)
				get(t, x, k, 0, false)
				next(t, x, k, api.Entry{}, false)
				dropNone(t, x, k)
				first(t, x, api.Entry{}, false)
			}
			if x.Len() != 0 || x.Room() != 0 || len(x.All()) != 0 || len(x.Shape()) != 0 {
				t.Fatal(x.Len(), x.Room(), x.All(), x.Shape())
			}
		}
	}
	answers(t, one, entries(4, 2, 7))
}

// P6.1: rooms that may not be.
func TestNewRefused(t *testing.T) {
	for _, room := range []int{math.MinInt, math.MinInt + 1, -1 << 32, -api.MaxNodes, -2, -1, 0, api.MaxNodes + 1, api.MaxNodes + 2, 2 * api.MaxNodes, 1 << 32, 1<<32 + 1, math.MaxInt} {
		if x, e := New(room); x != nil || e != api.ErrArg {
			t.Errorf("New(%d): %v, %d", room, x, e)
		}
	}
}

// P6.1: at each edge there is no key at first, and room for as many as was said, and for no more.
func TestNewEdges(t *testing.T) {
	for _, room := range []int{1, 2, 3, api.MaxNodes - 1, api.MaxNodes} {
		x := fresh(t, room)
		answers(t, x, nil)
		next(t, x, key(0, 0), api.Entry{}, false)
		dropNone(t, x, key(0, 0))
		for i := range room {
			if x.Len() != i || x.Room() != room {
				t.Fatalf("Len(), Room(): %d, %d, not %d, %d", x.Len(), x.Room(), i, room)
			}
			put(t, x, key(uint64(i*40503%api.MaxNodes), 0), i, api.OK) // odd, so that each comes once
		}
		for range 2 {
			put(t, x, key(1, 1), 7, api.ErrFull)
			if x.Len() != room || x.Room() != room {
				t.Fatalf("Len(), Room(): %d, %d, not %d", x.Len(), x.Room(), room)
			}
		}
		drop(t, x, key(0, 0), 0)
		put(t, x, key(1, 1), 7, api.OK)
		put(t, x, key(0, 0), 7, api.ErrFull)
		sound(t, x)
	}
}

// P6.2, P6.3: keys are in order by At, of the same At by Seq, both from end to end; asked for one by one and for what is above them, there or not.
func TestOrder(t *testing.T) {
	keys := edges()
	for _, order := range orders(len(keys)) {
		x := fresh(t, len(keys))
		var want []api.Entry
		for i, k := range keys {
			want = append(want, api.Entry{Key: k, V: i})
		}
		for _, i := range order {
			put(t, x, keys[i], i, api.OK)
		}
		answers(t, x, want)
		for i := 0; i < len(keys); i += 2 {
			drop(t, x, keys[i], i)
		}
		for i, k := range keys {
			get(t, x, k, i*(i%2), i%2 == 1)
			above := i + 1 + i%2
			if above < len(keys) {
				next(t, x, k, want[above], true)
			} else {
				next(t, x, k, api.Entry{}, false)
			}
		}
		first(t, x, want[1], true)
	}
}

// P6.2, P6.3: a key alone, at each end, and between.
func TestAlone(t *testing.T) {
	for i, k := range edges() {
		x := fresh(t, 3)
		put(t, x, k, i, api.OK)
		alone := api.Entry{Key: k, V: i}
		for j, other := range edges() {
			if j < i {
				next(t, x, other, alone, true)
			} else {
				next(t, x, other, api.Entry{}, false)
			}
			if j != i {
				get(t, x, other, 0, false)
				dropNone(t, x, other)
			}
		}
		answers(t, x, []api.Entry{alone})
		drop(t, x, k, i)
		dropNone(t, x, k)
		get(t, x, k, 0, false)
		next(t, x, key(0, 0), api.Entry{}, false)
		answers(t, x, nil)
	}
}

// P6.2: numbers are any, 0 and those below it too; 0, yes is not 0, no.
func TestNumbers(t *testing.T) {
	numbers := []int{0, -1, 1, math.MinInt, math.MaxInt, 0}
	x := fresh(t, len(numbers))
	for i, v := range numbers {
		put(t, x, key(7, uint64(i)), v, api.OK)
	}
	for i, v := range numbers {
		get(t, x, key(7, uint64(i)), v, true)
	}
	first(t, x, api.Entry{Key: key(7, 0)}, true)
	next(t, x, key(7, 4), api.Entry{Key: key(7, 5)}, true)
	for i, v := range numbers {
		drop(t, x, key(7, uint64(i)), v)
		get(t, x, key(7, uint64(i)), 0, false)
	}
}

// P6.2, R2: a key that is there keeps its number; where there is no room none comes; of both ErrHave counts; nothing has changed.
func TestPutRefused(t *testing.T) {
	for _, n := range []int{1, 2, 3, 7, 20} {
		for _, order := range orders(n) {
			for _, room := range []int{n, n + 1} {
				x := grown(t, room, order...)
				shape := x.Shape()
				for at := range n {
					put(t, x, key(uint64(at), 0), -1, api.ErrHave)
					if room == n {
						put(t, x, key(uint64(at), 1), -1, api.ErrFull)
					}
				}
				answers(t, x, entries(order...))
				if !slices.Equal(x.Shape(), shape) {
					t.Fatal("a Put that was refused changed the shape")
				}
			}
		}
	}
}

// P6.2, R2: dropping a key that is not there, of the same At or the same Seq as one that is, changes nothing.
func TestDropMissing(t *testing.T) {
	for n := range 12 {
		for _, order := range orders(n) {
			x := grown(t, 30, order...)
			shape := x.Shape()
			for at := range n + 2 {
				dropNone(t, x, key(uint64(at), 1))
				dropNone(t, x, key(uint64(at), api.Never))
			}
			dropNone(t, x, key(uint64(n), 0))
			dropNone(t, x, key(api.Never, 0))
			answers(t, x, entries(order...))
			if !slices.Equal(x.Shape(), shape) {
				t.Fatal("a Drop of nothing changed the shape")
			}
		}
	}
}

// kind says what stands around a node.
func (s twigs) kind(at int) string {
	kids := s.kids[at]
	name := "black "
	if s.nodes[at].Red {
		name = "red "
	}
	if at == s.root {
		name = "root "
	}
	switch {
	case kids[0] < 0 && kids[1] < 0:
		return name + "leaf"
	case kids[1] < 0:
		return name + "with one below it, ahead"
	case kids[0] < 0:
		return name + "with one below it, behind"
	case kids[1] == at+1:
		return name + "with two, the next one right below it"
	}
	return name + "with two, the next one deeper"
}

// P6.2, P6.4: whichever key is dropped, of whichever kind its node is, the others stay, in a red-black tree.
func TestDropEach(t *testing.T) {
	seen := map[string]int{}
	for n := 1; n <= 40; n++ {
		for _, order := range orders(n) {
			s := sound(t, grown(t, n, order...))
			for at := range n {
				x := grown(t, n, order...)
				seen[s.kind(at)]++
				drop(t, x, key(uint64(at), 0), at+1000)
				rest := without(order, at)
				answers(t, x, entries(rest...))
				get(t, x, key(uint64(at), 0), 0, false)
				dropNone(t, x, key(uint64(at), 0))
				put(t, x, key(uint64(at), 0), at+1000, api.OK)
				answers(t, x, entries(order...))
			}
		}
	}
	for _, kind := range []string{
		"root leaf", "root with one below it, ahead", "root with one below it, behind", "root with two, the next one right below it", "root with two, the next one deeper",
		"red leaf", "red with two, the next one right below it", "red with two, the next one deeper",
		"black leaf", "black with one below it, ahead", "black with one below it, behind", "black with two, the next one right below it", "black with two, the next one deeper",
	} {
		if seen[kind] == 0 {
			t.Error("never dropped:", kind)
		}
	}
}

// P6.2, P6.4: all keys are dropped, in several orders, and as many put again, into the same tree.
func TestDropAll(t *testing.T) {
	for _, n := range []int{1, 2, 3, 8, 33, 100} {
		for _, come := range orders(n) {
			for _, leave := range orders(n) {
				x := grown(t, n, come...)
				for i, at := range leave {
					drop(t, x, key(uint64(at), 0), at+1000)
					if i%7 == 0 {
						holds(t, x, entries(leave[i+1:]...))
					} else {
						sound(t, x)
					}
				}
				answers(t, x, nil)
				for _, at := range leave {
					put(t, x, key(uint64(at), 0), at+1000, api.OK)
				}
				answers(t, x, entries(leave...))
				put(t, x, key(api.Never, 0), 0, api.ErrFull)
			}
		}
	}
}

// P6.4, P6.5: all orders in which a few keys can come, and go.
func TestEveryOrder(t *testing.T) {
	for n := range 6 {
		for _, come := range permutations(n) {
			for _, leave := range permutations(n) {
				x := fresh(t, n+1)
				for i, at := range come {
					put(t, x, key(uint64(at), 0), at+1000, api.OK)
					holds(t, x, entries(come[:i+1]...))
				}
				for i, at := range leave {
					drop(t, x, key(uint64(at), 0), at+1000)
					holds(t, x, entries(leave[i+1:]...))
				}
			}
		}
	}
}

// P6.2 to P6.5: as many keys as there may be, coming in several orders, half of them going and coming again, all going.
func TestMost(t *testing.T) {
	const n = api.MaxNodes
	list := orders(n)
	for _, order := range [][]int{list[0], list[1], list[4]} { // rising, falling, scattered
		x := grown(t, n, order...)
		put(t, x, key(0, 1), 0, api.ErrFull)
		put(t, x, key(0, 0), 0, api.ErrHave)
		all := entries(order...)
		answers(t, x, all)
		for _, at := range order[:n/2] {
			drop(t, x, key(uint64(at), 0), at+1000)
		}
		answers(t, x, entries(order[n/2:]...))
		for _, at := range order[:n/2] {
			put(t, x, key(uint64(at), 0), at+1000, api.OK)
		}
		answers(t, x, all)
		for i, at := range order {
			drop(t, x, key(uint64(at), 0), at+1000)
			if i%8192 == 0 {
				sound(t, x)
			}
		}
		answers(t, x, nil)
	}
}

// P6.3, P6.4, R3: what All and Shape tell is in memory of its own, spare room included, and stays as it was told.
func TestApart(t *testing.T) {
	ats := []int{5, 1, 4, 2, 8, 9, 3}
	want := entries(ats...)
	x := grown(t, 20, ats...)
	all, allToo := x.All(), x.All()
	shape, shapeToo, was := x.Shape(), x.Shape(), x.Shape()
	all, shape = all[:cap(all)], shape[:cap(shape)]
	for i := range all {
		all[i] = api.Entry{Key: key(77, 7), V: -7}
	}
	for i := range shape {
		shape[i] = api.Twig{Key: key(77, 7), Red: true, Up: 99}
	}
	_, _ = append(allToo, api.Entry{V: 9}), append(shapeToo, api.Twig{Up: 9})
	answers(t, x, want)
	if !slices.Equal(allToo, want) || !slices.Equal(shapeToo, was) || !slices.Equal(x.Shape(), was) {
		t.Fatal("two answers share memory:", allToo, shapeToo)
	}
	for _, at := range []int{5, 1, 9} {
		drop(t, x, key(uint64(at), 0), at+1000)
	}
	put(t, x, key(6, 6), 66, api.OK)
	if !slices.Equal(allToo, want) || !slices.Equal(shapeToo, was) {
		t.Fatal("an answer changed behind what was done later:", allToo, shapeToo)
	}
}

// P6.2 to P6.4: asking changes nothing.
func TestAsking(t *testing.T) {
	order := orders(30)[4]
	x := grown(t, 40, order...)
	shape := x.Shape()
	for range 2 {
		for at := range uint64(32) {
			x.Get(key(at, 0))
			x.Get(key(at, 1))
			x.Next(key(at, 0))
			x.Next(key(at, 1))
		}
		x.First()
		x.Len()
		x.Room()
		x.All()
		answers(t, x, entries(order...))
		if x.Room() != 40 || !slices.Equal(x.Shape(), shape) {
			t.Fatal("asking changed the tree")
		}
	}
}

// R4: trees share nothing, and what is done to both alike is told alike.
func TestTreesApart(t *testing.T) {
	order := orders(25)[5]
	a, b, c := grown(t, 30, order...), grown(t, 30, order...), grown(t, 30, order...)
	for _, at := range order[:12] {
		drop(t, a, key(uint64(at), 0), at+1000)
		drop(t, c, key(uint64(at), 0), at+1000)
	}
	put(t, a, key(99, 0), 1099, api.OK)
	put(t, c, key(99, 0), 1099, api.OK)
	answers(t, b, entries(order...))
	answers(t, a, entries(append(slices.Clone(order[12:]), 99)...))
	if !slices.Equal(a.Shape(), c.Shape()) {
		t.Fatal("two trees of the same past have another shape")
	}
}

// model is a tree by the chapter's words: its keys, rising, and for how many there is room.
type model struct {
	all  []api.Entry
	room int
}

// find is how many keys are below one, and whether it is there.
func (m *model) find(k api.Key) (int, bool) {
	i := 0
	for i < len(m.all) && below(m.all[i].Key, k) {
		i++
	}
	return i, i < len(m.all) && m.all[i].Key == k
}

func (m *model) put(k api.Key, v int) api.Errno {
	i, found := m.find(k)
	if found {
		return api.ErrHave
	}
	if len(m.all) == m.room {
		return api.ErrFull
	}
	m.all = slices.Insert(m.all, i, api.Entry{Key: k, V: v})
	return api.OK
}

func (m *model) drop(k api.Key) (int, bool) {
	i, found := m.find(k)
	if !found {
		return 0, false
	}
	v := m.all[i].V
	m.all = slices.Delete(m.all, i, i+1)
	return v, true
}

func (m *model) get(k api.Key) (int, bool) {
	if i, found := m.find(k); found {
		return m.all[i].V, true
	}
	return 0, false
}

func (m *model) next(k api.Key) (api.Entry, bool) {
	i, found := m.find(k)
	if found {
		i++
	}
	if i == len(m.all) {
		return api.Entry{}, false
	}
	return m.all[i], true
}

// P6.1 to P6.5: long runs of puts and drops, of keys that are there and that are not, all answers held against the model, and the shape looked at, behind every call.
func TestModel(t *testing.T) {
	for _, c := range []struct{ room, ats, seqs, steps int }{{1, 1, 2, 200}, {2, 2, 2, 500}, {3, 4, 1, 1000}, {6, 3, 3, 3000}, {16, 40, 1, 5000}, {60, 5, 20, 8000}, {200, 400, 1, 8000}, {900, 30, 40, 6000}} {
		draw := drawer(uint64(c.room))
		x := fresh(t, c.room)
		m := &model{room: c.room}
		for step := range c.steps {
			k := key(uint64(draw(c.ats)), uint64(draw(c.seqs)))
			most := 30
			if step/(2*c.room+10)%2 == 0 { // now mostly filling, now mostly emptying
				most = 70
			}
			if draw(100) < most {
				put(t, x, k, step, m.put(k, step))
			} else {
				if i, found := m.find(k); !found && i < len(m.all) && draw(3) > 0 {
					k = m.all[i].Key
				}
				want, found := m.drop(k)
				if v, ok := x.Drop(k); v != want || ok != found {
					t.Fatalf("%v, step %d: Drop(%v): %d, %v, not %d, %v", c, step, k, v, ok, want, found)
				}
			}
			holds(t, x, m.all)
			for _, k := range []api.Key{k, key(uint64(draw(c.ats+1)), uint64(draw(c.seqs+1)))} {
				want, found := m.get(k)
				get(t, x, k, want, found)
				above, more := m.next(k)
				next(t, x, k, above, more)
			}
		}
		if x.Room() != c.room {
			t.Fatal(c, x.Room())
		}
	}
}

// P6.4, P6.5: keys that come at one end and go at the other one, as instants do, and such as come and go at the same end.
func TestRows(t *testing.T) {
	for _, size := range []int{1, 2, 3, 10, 31, 32, 64} {
		for _, rising := range []bool{true, false} {
			x := fresh(t, size+1)
			at := func(i int) api.Key {
				if rising {
					return key(uint64(i), 0)
				}
				return key(uint64(10000-i), 0)
			}
			for i := range 1000 {
				put(t, x, at(i), i, api.OK)
				sound(t, x)
				if i >= size {
					drop(t, x, at(i-size), i-size)
					sound(t, x)
				}
				if i > 0 {
					drop(t, x, at(i), i)
					sound(t, x)
					put(t, x, at(i), i, api.OK)
				}
			}
			if x.Len() != size {
				t.Fatal(size, x.Len())
			}
		}
	}
}
