package chain

import (
	"math"
	"slices"
	"testing"

	"sandglass/api"
)

func fresh(t *testing.T, lists, nodes int) *Chains {
	t.Helper()
	c, e := New(lists, nodes)
	if c == nil || e != api.OK {
		t.Fatalf("New(%d, %d): %v, %d", lists, nodes, c, e)
	}
	return c
}

func push(t *testing.T, c *Chains, list, node int, want api.Errno) {
	t.Helper()
	if e := c.Push(list, node); e != want {
		t.Fatalf("Push(%d, %d): %d, not %d", list, node, e, want)
	}
}

// pushAll puts nodes, one after the other, into a list.
func pushAll(t *testing.T, c *Chains, list int, nodes ...int) {
	t.Helper()
	for _, node := range nodes {
		push(t, c, list, node, api.OK)
	}
}

func pop(t *testing.T, c *Chains, list, want int) {
	t.Helper()
	if node, ok := c.Pop(list); node != want || !ok {
		t.Fatalf("Pop(%d): %d, %v, not %d", list, node, ok, want)
	}
}

func popNone(t *testing.T, c *Chains, list int) {
	t.Helper()
	if node, ok := c.Pop(list); node != 0 || ok {
		t.Fatalf("Pop(%d): %d, %v, though there is none", list, node, ok)
	}
}

func drop(t *testing.T, c *Chains, node int, want bool) {
	t.Helper()
	if was := c.Drop(node); was != want {
		t.Fatalf("Drop(%d): %v", node, was)
	}
}

// inNone: the node is in no list.
func inNone(t *testing.T, c *Chains, node int) {
	t.Helper()
	if list, ok := c.In(node); list != 0 || ok {
		t.Fatalf("In(%d): %d, %v, though it is in none", node, list, ok)
	}
}

// has holds all that can be asked of a list, and of its nodes, against what it must have.
func has(t *testing.T, c *Chains, list int, want ...int) {
	t.Helper()
	if got := c.List(list); !slices.Equal(got, want) {
		t.Fatalf("List(%d): %v, not %v", list, got, want)
	}
	if got := c.Len(list); got != len(want) {
		t.Fatalf("Len(%d): %d, not %d", list, got, len(want))
	}
	first, ok := c.First(list)
	if ok != (len(want) > 0) || !ok && first != 0 || ok && first != want[0] {
		t.Fatalf("First(%d): %d, %v, of %v", list, first, ok, want)
	}
	for _, node := range want {
		if got, ok := c.In(node); got != list || !ok {
			t.Fatalf("In(%d): %d, %v, not %d", node, got, ok, list)
		}
	}
}

// The chapter's examples.
func TestExamples(t *testing.T) {
	c := fresh(t, 2, 4)
	pushAll(t, c, 0, 3, 1)
	has(t, c, 0, 3, 1)
	push(t, c, 1, 3, api.ErrIn)
	drop(t, c, 3, true)
	has(t, c, 0, 1)
	pop(t, c, 0, 1)
	popNone(t, c, 0)
	push(t, c, 2, 0, api.ErrArg)
}

// strange are numbers that are neither a list nor a node, of chains of 3 lists and 5 nodes.
func strange() []int {
	return []int{math.MinInt, math.MinInt + 1, -1 << 32, -65, -8, -5, -2, -1, 5, 6, 7, 8, 64, 65, api.MaxNodes - 1, api.MaxNodes, 1 << 32, 1<<32 + 1, math.MaxInt - 1, math.MaxInt}
}

// R5: no chains, and such as New did not make, at every call.
func TestNoChains(t *testing.T) {
	for _, c := range []*Chains{nil, {}, new(Chains)} {
		for range 2 { // the first round leaves nothing behind
			for _, at := range append(strange(), 0, 1, 2) {
				push(t, c, at, 0, api.ErrNil)
				push(t, c, 0, at, api.ErrNil)
				popNone(t, c, at)
				drop(t, c, at, false)
				inNone(t, c, at)
				has(t, c, at)
			}
		}
	}
}

// P5.1: lists and nodes that may not be, one of them or both.
func TestNewRefused(t *testing.T) {
	bad := [][2]int{{0, 0}, {-1, -1}, {api.MaxLists + 1, api.MaxNodes + 1}, {0, api.MaxNodes + 1}, {api.MaxNodes, api.MaxLists}}
	for _, lists := range []int{math.MinInt, -api.MaxLists, -2, -1, 0, api.MaxLists + 1, api.MaxLists + 2, 2 * api.MaxLists, api.MaxNodes, 1 << 32, 1<<32 + 1, math.MaxInt} {
		bad = append(bad, [2]int{lists, 1}, [2]int{lists, 64}, [2]int{lists, api.MaxNodes})
	}
	for _, nodes := range []int{math.MinInt, -api.MaxNodes, -2, -1, 0, api.MaxNodes + 1, api.MaxNodes + 2, 2 * api.MaxNodes, 1 << 32, 1<<32 + 1, math.MaxInt} {
		bad = append(bad, [2]int{1, nodes}, [2]int{api.MaxLists, nodes})
	}
	for _, x := range bad {
		if c, e := New(x[0], x[1]); c != nil || e != api.ErrArg {
			t.Errorf("New(%d, %d): %v, %d", x[0], x[1], c, e)
		}
	}
}

// P5.1, P5.2: at each edge all lists are empty at first, all lists and nodes are there, and none beyond them.
func TestNewEdges(t *testing.T) {
	for _, lists := range []int{1, 2, api.MaxLists - 1, api.MaxLists} {
		for _, nodes := range []int{1, 2, api.MaxLists, api.MaxNodes - 1, api.MaxNodes} {
			c := fresh(t, lists, nodes)
			for list := range lists {
				has(t, c, list)
				popNone(t, c, list)
			}
			for _, node := range []int{0, nodes / 2, nodes - 1} {
				inNone(t, c, node)
				drop(t, c, node, false)
			}
			for list := range lists {
				push(t, c, list, nodes-1, api.OK)
				has(t, c, list, nodes-1)
				pop(t, c, list, nodes-1)
			}
			push(t, c, lists, 0, api.ErrArg)
			push(t, c, 0, nodes, api.ErrArg)
			push(t, c, -1, 0, api.ErrArg)
			push(t, c, 0, -1, api.ErrArg)
			has(t, c, lists)
			inNone(t, c, nodes)
			drop(t, c, nodes, false)
		}
	}
}

// P5.2, P5.4: all nodes there may be, in one list, and in all lists by turns, come out as they were put in.
func TestAllNodes(t *testing.T) {
	for _, lists := range []int{1, api.MaxLists} {
		c := fresh(t, lists, api.MaxNodes)
		turns := make([][]int, lists)
		for i := range api.MaxNodes {
			node := i * 40503 % api.MaxNodes // odd, so that each comes once
			list := i % lists
			push(t, c, list, node, api.OK)
			turns[list] = append(turns[list], node)
		}
		for list, nodes := range turns {
			has(t, c, list, nodes...)
		}
		for list, nodes := range turns {
			for i, node := range nodes {
				pop(t, c, list, node)
				inNone(t, c, node)
				if c.Len(list) != len(nodes)-i-1 {
					t.Fatalf("Len(%d): %d behind %d of %d", list, c.Len(list), i+1, len(nodes))
				}
			}
			popNone(t, c, list)
			has(t, c, list)
		}
	}
}

// threeLists are chains of 3 lists and 5 nodes: 4 0 in the list 0, none in 1, 3 in 2; 1 and 2 are in none.
func threeLists(t *testing.T) *Chains {
	t.Helper()
	c := fresh(t, 3, 5)
	pushAll(t, c, 0, 4, 0)
	pushAll(t, c, 2, 3)
	return c
}

// asThreeLists: nothing has changed since.
func asThreeLists(t *testing.T, c *Chains) {
	t.Helper()
	has(t, c, 0, 4, 0)
	has(t, c, 1)
	has(t, c, 2, 3)
	inNone(t, c, 1)
	inNone(t, c, 2)
}

// P5.2: a node that is in a list is put into none, neither the same one nor another, be it first, last or the only one.
func TestPushIn(t *testing.T) {
	c := threeLists(t)
	for list := range 3 {
		for _, node := range []int{4, 0, 3} {
			push(t, c, list, node, api.ErrIn)
			asThreeLists(t, c)
		}
	}
	push(t, c, 1, 1, api.OK)
	push(t, c, 0, 2, api.OK)
	has(t, c, 0, 4, 0, 2)
	has(t, c, 1, 1)
	has(t, c, 2, 3)
}

// P5.2, P5.3: lists and nodes that there are not; of the errors ErrArg comes ahead of ErrIn.
func TestStrange(t *testing.T) {
	c := threeLists(t)
	for _, x := range strange() {
		for node := range 5 {
			push(t, c, x, node, api.ErrArg)
		}
		for list := range 3 {
			push(t, c, list, x, api.ErrArg)
		}
		push(t, c, x, x, api.ErrArg)
		popNone(t, c, x)
		drop(t, c, x, false)
		inNone(t, c, x)
		has(t, c, x)
		asThreeLists(t, c)
	}
	for _, list := range []int{3, 4} { // numbers of nodes that no list has
		push(t, c, list, 1, api.ErrArg)
		push(t, c, list, 4, api.ErrArg)
		popNone(t, c, list)
		has(t, c, list)
		asThreeLists(t, c)
	}
}

// P5.2: popped until it is empty, and once more; then it is as at first.
func TestPopUntilEmpty(t *testing.T) {
	c := threeLists(t)
	for range 3 {
		pop(t, c, 0, 4)
		inNone(t, c, 4)
		has(t, c, 0, 0)
		pop(t, c, 0, 0)
		inNone(t, c, 0)
		for range 2 {
			popNone(t, c, 0)
			has(t, c, 0)
		}
		has(t, c, 2, 3)
		pushAll(t, c, 0, 4, 0)
		asThreeLists(t, c)
	}
}

// P5.2, P5.4: whichever is dropped leaves the others in their order; it is dropped once, and comes last when it is pushed again.
func TestDropEach(t *testing.T) {
	order := []int{6, 1, 4, 0, 5}
	for size := 1; size <= len(order); size++ {
		for i := range size {
			nodes := order[:size]
			c := fresh(t, 2, 7)
			pushAll(t, c, 1, 3)
			pushAll(t, c, 0, nodes...)
			drop(t, c, nodes[i], true)
			rest := slices.Delete(slices.Clone(nodes), i, i+1)
			for range 2 {
				inNone(t, c, nodes[i])
				has(t, c, 0, rest...)
				has(t, c, 1, 3)
				drop(t, c, nodes[i], false)
				drop(t, c, 2, false) // in none, ever
			}
			pushAll(t, c, 0, nodes[i])
			has(t, c, 0, append(rest, nodes[i])...)
			for _, node := range append(rest, nodes[i]) {
				pop(t, c, 0, node)
			}
			popNone(t, c, 0)
			has(t, c, 1, 3)
		}
	}
}

// P5.2: what was dropped or popped may be pushed into the same list, or into another one.
func TestPushAgain(t *testing.T) {
	c := fresh(t, 3, 6)
	pushAll(t, c, 0, 0, 1, 2, 3)
	drop(t, c, 1, true)
	pushAll(t, c, 1, 1)
	pop(t, c, 0, 0)
	pushAll(t, c, 0, 0)
	pop(t, c, 0, 2)
	pushAll(t, c, 1, 2)
	has(t, c, 0, 3, 0)
	has(t, c, 1, 1, 2)
	drop(t, c, 2, true)
	push(t, c, 0, 2, api.OK)
	push(t, c, 1, 2, api.ErrIn)
	drop(t, c, 1, true)
	has(t, c, 0, 3, 0, 2)
	has(t, c, 1)
	pushAll(t, c, 1, 1)
	has(t, c, 1, 1)
	has(t, c, 2)
}

// P5.3, R3: what List tells is in memory of its own, spare room included, and stays as it was told.
func TestListApart(t *testing.T) {
	c := fresh(t, 2, 6)
	pushAll(t, c, 0, 5, 2, 0)
	pushAll(t, c, 1, 1)
	one, two, other := c.List(0), c.List(0), c.List(1)
	for _, list := range [][]int{one, other} {
		list = list[:cap(list)]
		for i := range list {
			list[i] = -7
		}
	}
	has(t, c, 0, 5, 2, 0)
	has(t, c, 1, 1)
	if !slices.Equal(two, []int{5, 2, 0}) {
		t.Fatal("two answers share memory:", two)
	}
	_ = append(two, 9)
	has(t, c, 1, 1)
	drop(t, c, 2, true)
	pop(t, c, 0, 5)
	pushAll(t, c, 0, 3, 4)
	if !slices.Equal(two, []int{5, 2, 0}) {
		t.Fatal("an answer changed behind what was done later:", two)
	}
	has(t, c, 0, 0, 3, 4)
}

// P5.3: asking changes nothing.
func TestAsking(t *testing.T) {
	c := threeLists(t)
	for range 3 {
		for list := -1; list <= 3; list++ {
			c.First(list)
			c.Len(list)
			c.List(list)
		}
		for node := -1; node <= 5; node++ {
			c.In(node)
		}
		asThreeLists(t, c)
	}
}

// R4: chains share nothing.
func TestChainsApart(t *testing.T) {
	a, b := threeLists(t), threeLists(t)
	pop(t, a, 0, 4)
	drop(t, a, 3, true)
	pushAll(t, a, 1, 1, 3)
	asThreeLists(t, b)
	pop(t, b, 0, 4)
	has(t, a, 0, 0)
	has(t, a, 1, 1, 3)
	has(t, a, 2)
}

// model is chains by the chapter's words: the nodes of each list, one behind the other.
type model struct {
	lists [][]int
	nodes int
}

// find is the list in which a node is, and where it stands there; -1, -1: in none.
func (m *model) find(node int) (int, int) {
	for list, nodes := range m.lists {
		if i := slices.Index(nodes, node); i >= 0 {
			return list, i
		}
	}
	return -1, -1
}

func (m *model) push(list, node int) api.Errno {
	if list < 0 || list >= len(m.lists) || node < 0 || node >= m.nodes {
		return api.ErrArg
	}
	if home, _ := m.find(node); home >= 0 {
		return api.ErrIn
	}
	m.lists[list] = append(m.lists[list], node)
	return api.OK
}

func (m *model) pop(list int) (int, bool) {
	if list < 0 || list >= len(m.lists) || len(m.lists[list]) == 0 {
		return 0, false
	}
	first := m.lists[list][0]
	m.lists[list] = m.lists[list][1:]
	return first, true
}

func (m *model) drop(node int) bool {
	list, i := m.find(node)
	if list < 0 {
		return false
	}
	m.lists[list] = slices.Delete(m.lists[list], i, i+1)
	return true
}

// same holds all that can be asked of the chains against the model.
func (m *model) same(t *testing.T, c *Chains) {
	t.Helper()
	for list, nodes := range m.lists {
		has(t, c, list, nodes...)
	}
	for node := range m.nodes {
		if home, _ := m.find(node); home < 0 {
			inNone(t, c, node)
		}
	}
}

// P5.1 to P5.4: long runs of pushes, pops and drops, of lists and nodes that there are and that there are not, held against the model.
func TestModel(t *testing.T) {
	state := uint64(0x9e3779b97f4a7c15)
	draw := func(n int) int {
		state = state*6364136223846793005 + 1442695040888963407
		return int(state >> 33 % uint64(n))
	}
	for _, x := range [][2]int{{1, 1}, {1, 5}, {2, 3}, {3, 9}, {5, 4}, {7, 20}, {64, 30}} {
		c := fresh(t, x[0], x[1])
		m := &model{lists: make([][]int, x[0]), nodes: x[1]}
		for step := range 1500 {
			list, node := draw(x[0]+2)-1, draw(x[1]+2)-1
			switch kind := draw(20); {
			case kind < 8+4*(step/100%2): // now mostly emptying, now mostly filling
				want := m.push(list, node)
				push(t, c, list, node, want)
			case kind < 16:
				want, found := m.pop(list)
				if got, ok := c.Pop(list); got != want || ok != found {
					t.Fatalf("%v, step %d: Pop(%d): %d, %v, not %d, %v", x, step, list, got, ok, want, found)
				}
			default:
				want := m.drop(node)
				drop(t, c, node, want)
			}
			m.same(t, c)
		}
	}
}
