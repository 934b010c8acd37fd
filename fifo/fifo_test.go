package fifo

import (
	"math"
	"slices"
	"testing"

	"sandglass/api"
	"sandglass/tree"
)

const never = uint64(api.Never)

func at(at, seq uint64) api.Key {
	return api.Key{At: at, Seq: seq}
}

func fresh(t *testing.T, room int) *Fifo {
	t.Helper()
	q, e := New(room)
	if q == nil || e != api.OK {
		t.Fatalf("New(%d): %v, %d", room, q, e)
	}
	return q
}

func push(t *testing.T, q *Fifo, h uint64, k api.Key) {
	t.Helper()
	n := q.Len()
	if e := q.Push(h, k); e != api.OK || q.Len() != n+1 {
		t.Fatalf("Push(%d, %v): %d, and %d packets, not %d", h, k, e, q.Len(), n+1)
	}
}

// refused: a packet is refused, and that changes nothing.
func refused(t *testing.T, q *Fifo, k api.Key, want api.Errno) {
	t.Helper()
	ahead, n := q.All(), q.Len()
	h, first, ok := q.Head()
	if e := q.Push(77, k); e != want {
		t.Fatalf("Push(77, %v): %d, not %d", k, e, want)
	}
	holds(t, q, ahead...)
	if h2, first2, ok2 := q.Head(); h2 != h || first2 != first || ok2 != ok || q.Len() != n {
		t.Fatalf("Head, Len: %d, %v, %v, %d, not %d, %v, %v, %d", h2, first2, ok2, q.Len(), h, first, ok, n)
	}
}

// holds: these are all handles, as often as one asks.
func holds(t *testing.T, q *Fifo, want ...uint64) {
	t.Helper()
	for range 2 {
		if all := q.All(); !slices.Equal(all, want) {
			t.Fatalf("All: %v, not %v", all, want)
		}
	}
	if q.Len() != len(want) {
		t.Fatalf("Len: %d, not %d", q.Len(), len(want))
	}
}

// pop: the first one is this one, as often as one asks, and is popped once.
func pop(t *testing.T, q *Fifo, h uint64, k api.Key) {
	t.Helper()
	n := q.Len()
	for range 2 {
		if got, key, ok := q.Head(); got != h || key != k || !ok || q.Len() != n {
			t.Fatalf("Head: %d, %v, %v, not %d, %v", got, key, ok, h, k)
		}
	}
	if got, key, ok := q.Pop(); got != h || key != k || !ok || q.Len() != n-1 {
		t.Fatalf("Pop: %d, %v, %v, not %d, %v; %d packets are left of %d", got, key, ok, h, k, q.Len(), n)
	}
}

// empty: there is no first one, to be told or to be popped.
func empty(t *testing.T, q *Fifo) {
	t.Helper()
	for range 2 {
		if h, k, ok := q.Head(); h != 0 || k != (api.Key{}) || ok {
			t.Fatalf("Head: %d, %v, %v, though there is none", h, k, ok)
		}
		if h, k, ok := q.Pop(); h != 0 || k != (api.Key{}) || ok {
			t.Fatalf("Pop: %d, %v, %v, though there is none", h, k, ok)
		}
		holds(t, q)
	}
}

// The chapter's examples.
func TestExamples(t *testing.T) {
	q := fresh(t, 9)
	push(t, q, 7, at(5, 1))
	push(t, q, 8, at(9, 2))
	push(t, q, 9, at(6, 3))
	holds(t, q, 7, 9, 8)
	refused(t, q, at(9, 2), api.ErrHave)
	pop(t, q, 7, at(5, 1))
	pop(t, q, 9, at(6, 3))
	pop(t, q, 8, at(9, 2))
	empty(t, q)
}

// P11.1: rooms that may not be.
func TestRoomsRefused(t *testing.T) {
	for _, room := range []int{0, -1, -2, -api.MaxNodes, math.MinInt, api.MaxNodes + 1, 2 * api.MaxNodes, 1<<32 + 1, math.MaxInt} {
		if q, e := New(room); q != nil || e != api.ErrArg {
			t.Errorf("New(%d): %v, %d", room, q, e)
		}
	}
}

// ways is ways in which keys come, 0 to n-1 each: in order, late, and both.
func ways() map[string]func(i, n int) int {
	return map[string]func(i, n int) int{
		"in order": func(i, n int) int { return i },
		"late":     func(i, n int) int { return n - 1 - i },
		"halves":   func(i, n int) int { return (i + n/2) % n },
		"swapped":  swapped,
	}
}

// swapped is a number's neighbour: each second one comes late.
func swapped(i, n int) int {
	if i%2 == 1 {
		return i - 1
	}
	return min(i+1, n-1)
}

// P11.1, P11.2: a queue is empty at first, and holds as many packets as it has room for, whichever way they come; they leave by rising keys.
func TestUntilFull(t *testing.T) {
	for _, way := range ways() {
		for _, room := range []int{1, 2, 3, 64, 1001, api.MaxNodes - 1, api.MaxNodes} {
			q := fresh(t, room)
			if room <= 64 {
				empty(t, q)
			}
			for i := range room {
				k := way(i, room)
				push(t, q, uint64(k)+100, at(uint64(k)/3, uint64(k)))
			}
			beyond, least := at(never, 0), at(0, 0)
			refused(t, q, beyond, api.ErrFull)
			refused(t, q, least, api.ErrHave)
			for k := range room {
				pop(t, q, uint64(k)+100, at(uint64(k)/3, uint64(k)))
			}
			empty(t, q)
			push(t, q, 5, beyond)
			pop(t, q, 5, beyond)
		}
	}
}

// P11.2: handles and keys may be any numbers; of the handles many may be alike.
func TestAnyNumbers(t *testing.T) {
	numbers := []uint64{0, 1, 1<<31 - 1, 1 << 31, 1<<32 - 1, 1 << 32, 1<<63 - 1, 1 << 63, 1<<63 + 1, never - 1, never}
	for _, h := range numbers {
		for _, late := range []bool{false, true} {
			q := fresh(t, 200)
			var keys []api.Key
			for _, a := range numbers {
				for _, s := range numbers {
					keys = append(keys, at(a, s))
				}
			}
			coming := slices.Clone(keys)
			if late {
				slices.Reverse(coming)
			}
			for _, k := range coming {
				push(t, q, h, k)
			}
			for _, k := range keys {
				refused(t, q, k, api.ErrHave)
			}
			holds(t, q, slices.Repeat([]uint64{h}, len(keys))...)
			for _, k := range keys {
				pop(t, q, h, k)
			}
			empty(t, q)
		}
	}
}

// mixed is a queue with room for one more than the packets that it has: the keys 10, 30 and 50 came in order, 20 and 40 came late; the handles are the keys' instants.
func mixed(t *testing.T, room int) *Fifo {
	t.Helper()
	q := fresh(t, room)
	for _, k := range []uint64{10, 30, 50, 40, 20} {
		push(t, q, k, at(k, 1))
	}
	return q
}

// P11.2: a key that is there is refused, be there room or not, and however it came.
func TestHave(t *testing.T) {
	for _, room := range []int{5, 6, 100} {
		q := mixed(t, room)
		for _, k := range []uint64{10, 20, 30, 40, 50} {
			refused(t, q, at(k, 1), api.ErrHave)
		}
		if room > 5 {
			push(t, q, 1, at(30, 0)) // the same instant, another number
			continue
		}
		for _, k := range []api.Key{at(0, 0), at(10, 0), at(10, 2), at(35, 1), at(20, 0), at(50, 2), at(never, never)} {
			refused(t, q, k, api.ErrFull)
		}
		holds(t, q, 10, 20, 30, 40, 50)
	}
}

// P11.2: keys that differ in one number alone are others, on either side of one that came in order, and of one that came late.
func TestBeside(t *testing.T) {
	q := mixed(t, 100)
	h := uint64(1000)
	var want []uint64
	for _, k := range []uint64{10, 20, 30, 40, 50} {
		for _, x := range []api.Key{at(k-1, 1), at(k, 0), at(k, 2), at(k+1, 1), at(k+1, 0)} {
			push(t, q, h, x)
			h++
		}
		want = append(want, h-5, h-4, k, h-3, h-1, h-2)
	}
	holds(t, q, want...)
}

// P11.2: a packet that comes late when all that came in order have left, while others that came late wait.
func TestLateAndNoneInOrder(t *testing.T) {
	q := fresh(t, 9)
	push(t, q, 1, at(10, 0))
	push(t, q, 2, at(5, 0))
	push(t, q, 3, at(7, 0))
	push(t, q, 4, at(2, 0))
	pop(t, q, 4, at(2, 0))
	pop(t, q, 2, at(5, 0))
	pop(t, q, 3, at(7, 0))
	pop(t, q, 1, at(10, 0))
	push(t, q, 5, at(3, 0)) // ahead of all that ever came in order
	push(t, q, 6, at(8, 0))
	push(t, q, 7, at(6, 0))
	push(t, q, 8, at(9, 9))
	pop(t, q, 5, at(3, 0))
	push(t, q, 9, at(4, 0))
	holds(t, q, 9, 7, 6, 8)
	pop(t, q, 9, at(4, 0))
	pop(t, q, 7, at(6, 0))
	pop(t, q, 6, at(8, 0))
	pop(t, q, 8, at(9, 9))
	empty(t, q)
}

// P11.2: those that came in order have left, though one that came late still waits; what is then pushed may be that one's key, be ahead of it, or behind it.
func TestNoneInOrderWhileLateWait(t *testing.T) {
	build := func() *Fifo {
		q := fresh(t, 4)
		push(t, q, 1, at(1, 0))
		push(t, q, 2, at(20, 0))
		push(t, q, 3, at(10, 0))
		push(t, q, 4, at(12, 0))
		refused(t, q, at(15, 0), api.ErrFull)
		pop(t, q, 1, at(1, 0))
		return q
	}
	q := build()
	refused(t, q, at(10, 0), api.ErrHave)
	push(t, q, 5, at(5, 0))
	refused(t, q, at(10, 0), api.ErrHave)
	pop(t, q, 5, at(5, 0))
	pop(t, q, 3, at(10, 0))
	push(t, q, 6, at(11, 0))
	push(t, q, 7, at(13, 0))
	refused(t, q, at(12, 0), api.ErrHave)
	refused(t, q, at(14, 0), api.ErrFull)
	holds(t, q, 6, 4, 7, 2)

	q = fresh(t, 9) // all in order leave ahead of the late ones' return
	push(t, q, 1, at(5, 0))
	push(t, q, 2, at(4, 0))
	pop(t, q, 2, at(4, 0))
	pop(t, q, 1, at(5, 0))
	push(t, q, 3, at(9, 0))
	push(t, q, 4, at(8, 0))
	push(t, q, 5, at(7, 0))
	push(t, q, 6, at(10, 0))
	holds(t, q, 5, 4, 3, 6)
	refused(t, q, at(8, 0), api.ErrHave)
	refused(t, q, at(9, 0), api.ErrHave)
}

// P11.2: a key that was popped is there no more, and may be pushed again, however it came and comes.
func TestPushedAgain(t *testing.T) {
	q := mixed(t, 5)
	for round := range uint64(5) {
		for _, k := range []uint64{10, 20, 30, 40, 50} {
			pop(t, q, k+round, at(k, 1))
			push(t, q, k+round+1, at(k, 1))
			pop(t, q, k+round+1, at(k, 1))
			push(t, q, k, at(k+100, 1))
			refused(t, q, at(k+100, 1), api.ErrHave)
		}
		holds(t, q, 10, 20, 30, 40, 50)
		for _, k := range []uint64{10, 20, 30, 40, 50} {
			pop(t, q, k, at(k+100, 1))
		}
		for _, k := range []uint64{50, 10, 30, 20, 40} {
			push(t, q, k+round+1, at(k, 1))
		}
	}
}

// What comes in order stands in the row, and nothing of it in the tree; what comes late stands there.
func TestParts(t *testing.T) {
	q := fresh(t, 1000)
	for k := range uint64(400) {
		push(t, q, k, at(1000+k, 0))
		push(t, q, k, at(k, 0))
		if k%2 == 1 {
			pop(t, q, k/2, at(k/2, 0))
		}
	}
	if q.late.Len() != 200 || len(q.waiting()) != 400 {
		t.Error(q.late.Len(), len(q.waiting()))
	}
}

// P11.4: packets of one instant come out in the order of their numbers, whichever way they came.
func TestOneInstant(t *testing.T) {
	for name, way := range ways() {
		q := fresh(t, 100)
		for i := range 100 {
			k := uint64(way(i, 100))
			push(t, q, 1000-k, at(7, k))
		}
		for k := range uint64(100) {
			if h, key, ok := q.Pop(); h != 1000-k || key != at(7, k) || !ok {
				t.Fatal(name, h, key, ok)
			}
		}
		empty(t, q)
	}
}

// P11.4: what comes out rises, as long as nothing is pushed that is ahead of it.
func TestRises(t *testing.T) {
	q := fresh(t, 300)
	draw := drawer(11)
	var last api.Key
	for seq := range uint64(20000) {
		if q.Len() < 300 && draw(2) == 0 {
			push(t, q, seq, at(last.At+1+uint64(draw(50)), seq))
		} else if _, k, ok := q.Pop(); ok {
			if !(last.At < k.At || last.At == k.At && last.Seq < k.Seq) {
				t.Fatalf("%v came out behind %v", k, last)
			}
			last = k
		}
	}
}

// P11.2: room that is given back is room, far beyond as many packets as there is room for, whichever way they come; what is kept of those that have left is bounded.
func TestRoomAgain(t *testing.T) {
	for _, room := range []int{1, 2, 3, 7, 64} {
		for _, gap := range []uint64{0, 1, 5} { // by how much every second packet is late
			q := fresh(t, room)
			seq := uint64(0)
			for range 40*room + 1000 {
				for q.Len() < room {
					push(t, q, seq, at(seq+10-gap*(seq%2), seq))
					seq++
				}
				refused(t, q, at(seq+20, seq), api.ErrFull)
				if h, k, ok := q.Pop(); !ok || k != at(h+10-gap*(h%2), h) {
					t.Fatal(h, k, ok)
				}
			}
			if len(q.row) > 2*room || cap(q.row) > 4*room+8 {
				t.Errorf("room %d: the row has %d places, for %d", room, len(q.row), cap(q.row))
			}
		}
	}
}

// R3: what All hands out is nobody else's.
func TestAllIsNew(t *testing.T) {
	for _, keys := range [][]uint64{{10, 20, 30}, {30, 20, 10}, {20, 30, 10}} {
		q := fresh(t, 5)
		for _, k := range keys {
			push(t, q, k, at(k, 0))
		}
		one, two := q.All(), q.All()
		clear(one)
		_ = append(one[:1], 8, 8, 8, 8, 8, 8)
		if !slices.Equal(two, []uint64{10, 20, 30}) {
			t.Error(two)
		}
		holds(t, q, 10, 20, 30)
		pop(t, q, 10, at(10, 0))
		push(t, q, 40, at(40, 0))
		if !slices.Equal(two, []uint64{10, 20, 30}) {
			t.Error(two)
		}
	}
}

// R5: no queue, and such as New did not answer, at every call.
func TestNoQueue(t *testing.T) {
	made := mixed(t, 6)
	copied := *made
	late, _ := tree.New(3)
	for _, q := range []*Fifo{nil, {}, new(Fifo), {late: late}, {late: late, row: make([]packet, 2)}, &copied} {
		for _, k := range []api.Key{at(0, 0), at(10, 1), at(20, 1), at(60, 1), at(never, never)} {
			refused(t, q, k, api.ErrNil)
		}
		empty(t, q)
	}
	holds(t, made, 10, 20, 30, 40, 50)
	push(t, made, 60, at(60, 1))
	if late.Len() != 0 {
		t.Error("a queue that New did not answer has a packet")
	}
}

// R4: queues share nothing.
func TestApart(t *testing.T) {
	a, b := fresh(t, 3), fresh(t, 3)
	push(t, a, 1, at(2, 0))
	push(t, a, 2, at(1, 0))
	empty(t, b)
	push(t, b, 3, at(2, 0))
	push(t, b, 4, at(1, 0))
	pop(t, a, 2, at(1, 0))
	pop(t, a, 1, at(2, 0))
	holds(t, b, 4, 3)
}

// drawer draws numbers below others, by a rule.
func drawer(state uint64) func(n int) int {
	return func(n int) int {
		state = state*6364136223846793005 + 1442695040888963407
		return int(state >> 33 % uint64(n))
	}
}

// model is a queue by the chapter's words: handles by keys.
type model struct {
	room    int
	handles map[api.Key]uint64
}

func (m *model) push(h uint64, k api.Key) api.Errno {
	if _, ok := m.handles[k]; ok {
		return api.ErrHave
	}
	if len(m.handles) >= m.room {
		return api.ErrFull
	}
	m.handles[k] = h
	return api.OK
}

func (m *model) keys() []api.Key {
	var keys []api.Key
	for k := range m.handles {
		keys = append(keys, k)
	}
	slices.SortFunc(keys, func(a, b api.Key) int {
		if a.At != b.At {
			return int(a.At) - int(b.At)
		}
		return int(a.Seq) - int(b.Seq)
	})
	return keys
}

// same holds all that can be asked of the queue against the model.
func (m *model) same(t *testing.T, q *Fifo) {
	t.Helper()
	keys := m.keys()
	var want []uint64
	for _, k := range keys {
		want = append(want, m.handles[k])
	}
	holds(t, q, want...)
	h, k, ok := q.Head()
	if ok != (len(keys) > 0) || ok && (k != keys[0] || h != want[0]) || !ok && (h != 0 || k != (api.Key{})) {
		t.Fatalf("Head: %d, %v, %v of %v", h, k, ok, keys)
	}
}

// P11.1 to P11.4: long runs of packets that are pushed, in order and late, and of keys that are there, and popped, held against the model.
func TestModel(t *testing.T) {
	draw := drawer(0x9e3779b97f4a7c15)
	for _, room := range []int{1, 2, 3, 5, 8, 30} {
		for _, spread := range []int{1, 3, 20, 200} { // keys of few instants, and of many
			q, m := fresh(t, room), &model{room: room, handles: map[api.Key]uint64{}}
			clock := 0
			for step := range 800 {
				if draw(20) < 9+3*(step/100%2) { // now mostly filling, now mostly emptying
					h, k := uint64(draw(1000)), at(uint64(clock/4+draw(spread)), uint64(draw(3)))
					e, want := q.Push(h, k), m.push(h, k)
					if e != want {
						t.Fatalf("room %d, step %d: Push(%d, %v): %d, not %d", room, step, h, k, e, want)
					}
				} else {
					h, k, ok := q.Pop()
					if keys := m.keys(); ok != (len(keys) > 0) || ok && (k != keys[0] || h != m.handles[k]) {
						t.Fatalf("room %d, step %d: Pop: %d, %v, %v of %v", room, step, h, k, ok, keys)
					}
					delete(m.handles, k)
				}
				clock++
				m.same(t, q)
			}
		}
	}
}
