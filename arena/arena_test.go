package arena

import (
	"math"
	"slices"
	"testing"

	"sandglass/api"
)

const never = uint64(api.Never)

// handleOf is the handle of a place that was taken so often ahead of it, by the chapter's words.
func handleOf(place int, ahead uint64) uint64 {
	return ahead*4294967296 + uint64(place) + 1
}

func fresh(t *testing.T, room int) *Arena {
	t.Helper()
	a, e := New(room)
	if a == nil || e != api.OK {
		t.Fatalf("New(%d): %v, %d", room, a, e)
	}
	return a
}

func take(t *testing.T, a *Arena, want uint64) {
	t.Helper()
	if h, e := a.Take(); h != want || e != api.OK {
		t.Fatalf("Take: %d, %d, not %d", h, e, want)
	}
}

func takeNone(t *testing.T, a *Arena, want api.Errno) {
	t.Helper()
	if h, e := a.Take(); h != 0 || e != want {
		t.Fatalf("Take: %d, %d, not 0, %d", h, e, want)
	}
}

func give(t *testing.T, a *Arena, h uint64, want api.Errno) {
	t.Helper()
	if e := a.Give(h); e != want {
		t.Fatalf("Give(%d): %d, not %d", h, e, want)
	}
}

// holds: the handle and its place lead to each other.
func holds(t *testing.T, a *Arena, h uint64, place int) {
	t.Helper()
	if p, ok := a.Place(h); p != place || !ok {
		t.Fatalf("Place(%d): %d, %v, not %d", h, p, ok, place)
	}
	if got, ok := a.Handle(place); got != h || !ok {
		t.Fatalf("Handle(%d): %d, %v, not %d", place, got, ok, h)
	}
}

func holdsNot(t *testing.T, a *Arena, h uint64) {
	t.Helper()
	if p, ok := a.Place(h); p != 0 || ok {
		t.Fatalf("Place(%d): %d, %v, though it does not hold", h, p, ok)
	}
}

func takenNot(t *testing.T, a *Arena, place int) {
	t.Helper()
	if h, ok := a.Handle(place); h != 0 || ok {
		t.Fatalf("Handle(%d): %d, %v, though it is not taken", place, h, ok)
	}
}

func counts(t *testing.T, a *Arena, used, room int) {
	t.Helper()
	if a.Used() != used || a.Room() != room {
		t.Fatalf("Used %d, Room %d, not %d, %d", a.Used(), a.Room(), used, room)
	}
}

// The chapter's examples.
func TestExamples(t *testing.T) {
	a := fresh(t, 2)
	take(t, a, 1)
	take(t, a, 2)
	takeNone(t, a, api.ErrFull)
	give(t, a, 1, api.OK)
	take(t, a, 1<<32+1)
	give(t, a, 1, api.ErrHandle)
	holds(t, a, 1<<32+1, 0)
	holds(t, a, 2, 1)
}

// R5: no arena, and one that New did not make.
func TestNoArena(t *testing.T) {
	for _, a := range []*Arena{nil, {}, new(Arena)} {
		for range 2 { // the first round leaves nothing behind
			takeNone(t, a, api.ErrNil)
			for _, h := range []uint64{0, 1, 2, 1 << 32, 1<<32 + 1, never} {
				give(t, a, h, api.ErrNil)
				holdsNot(t, a, h)
			}
			for _, place := range []int{math.MinInt, -1, 0, 1, api.MaxNodes, math.MaxInt} {
				takenNot(t, a, place)
			}
			counts(t, a, 0, 0)
		}
	}
}

// P4.1: rooms that may not be.
func TestRoomsRefused(t *testing.T) {
	for _, room := range []int{0, -1, -2, -api.MaxNodes, math.MinInt, api.MaxNodes + 1, 2 * api.MaxNodes, 1 << 20, math.MaxInt} {
		if a, e := New(room); a != nil || e != api.ErrArg {
			t.Errorf("New(%d): %v, %d", room, a, e)
		}
	}
}

// P4.1, P4.2: taken until it is full, and once more; given back in turn, and taken until it is full again.
func TestUntilFull(t *testing.T) {
	for _, room := range []int{1, 2, 3, 64, api.MaxNodes - 1, api.MaxNodes} {
		a := fresh(t, room)
		counts(t, a, 0, room)
		for place := range room {
			takenNot(t, a, place)
			take(t, a, handleOf(place, 0))
			counts(t, a, place+1, room)
		}
		for range 3 {
			takeNone(t, a, api.ErrFull)
			counts(t, a, room, room)
		}
		for place := range room {
			holds(t, a, handleOf(place, 0), place)
			give(t, a, handleOf(place, 0), api.OK)
			counts(t, a, room-place-1, room)
		}
		for place := range room {
			takenNot(t, a, place)
			holdsNot(t, a, handleOf(place, 0))
		}
		for place := room - 1; place >= 0; place-- {
			take(t, a, handleOf(place, 1))
			counts(t, a, room-place, room)
		}
		takeNone(t, a, api.ErrFull)
		for place := range room {
			holds(t, a, handleOf(place, 1), place)
		}
	}
}

// P4.2: a place is given back once.
func TestGivenBackTwice(t *testing.T) {
	a := fresh(t, 3)
	take(t, a, 1)
	take(t, a, 2)
	give(t, a, 1, api.OK)
	give(t, a, 1, api.ErrHandle)
	counts(t, a, 1, 3)
	take(t, a, handleOf(0, 1))
	give(t, a, 1, api.ErrHandle) // the place is taken again, by another handle
	holds(t, a, handleOf(0, 1), 0)
	counts(t, a, 2, 3)
	take(t, a, 3) // what was refused gave no place back a second time
	takeNone(t, a, api.ErrFull)
}

// strangers: handles that never held in an arena of 4 places of which 0 and 1 are taken, each for the first time, and 2 was given back.
func strangers() []uint64 {
	return []uint64{
		0,                                   // no place
		1 << 32, 2 << 32, never - 1<<32 + 1, // no place, with a count
		handleOf(2, 1), handleOf(2, 2), // what the next one of that place will be, and behind it
		handleOf(3, 0), handleOf(3, 1), // never taken
		handleOf(4, 0), handleOf(5, 0), handleOf(4, 1), // beyond the room
		handleOf(api.MaxNodes-1, 0), handleOf(api.MaxNodes, 0),
		1<<31 - 1, 1 << 31, 1<<31 + 1, 1<<32 - 1, // far beyond it
		handleOf(0, 1), handleOf(1, 1), handleOf(0, 2), handleOf(0, 1<<32-1), handleOf(1, 1<<31), // a right place, a wrong count
		1<<16 + 1, 1<<16 + 2, 1<<31 + 2, // a right place in fewer bits
		never, never - 1, 1 << 63, 1<<63 + 1, 1<<63 + 2,
	}
}

// P4.2, P4.3: what was never taken is neither given back nor told of, and a refusal changes nothing.
func TestStrangers(t *testing.T) {
	a := fresh(t, 4)
	take(t, a, 1)
	take(t, a, 2)
	take(t, a, 3)
	give(t, a, 3, api.OK)
	for _, h := range append(strangers(), 3) {
		give(t, a, h, api.ErrHandle)
		holdsNot(t, a, h)
		counts(t, a, 2, 4)
		holds(t, a, 1, 0)
		holds(t, a, 2, 1)
	}
	takenNot(t, a, 2)
	takenNot(t, a, 3)
	take(t, a, handleOf(2, 1))
	take(t, a, 4)
	takeNone(t, a, api.ErrFull)
}

// P4.2, P4.3: all numbers are strange to an arena of which nothing was taken yet.
func TestNothingTaken(t *testing.T) {
	a := fresh(t, 4)
	for _, h := range append(strangers(), 1, 2, 3) {
		give(t, a, h, api.ErrHandle)
		holdsNot(t, a, h)
	}
	counts(t, a, 0, 4)
	take(t, a, 1)
}

// P4.2: the one that was given back last comes first, however they were given back; those never taken come only behind them.
func TestOrder(t *testing.T) {
	a := fresh(t, 6)
	for place := range 4 {
		take(t, a, handleOf(place, 0))
	}
	for _, place := range []int{2, 0, 3} {
		give(t, a, handleOf(place, 0), api.OK)
	}
	take(t, a, handleOf(3, 1))
	give(t, a, handleOf(1, 0), api.OK) // between two takings
	take(t, a, handleOf(1, 1))
	take(t, a, handleOf(0, 1))
	take(t, a, handleOf(2, 1))
	take(t, a, handleOf(4, 0))
	give(t, a, handleOf(0, 1), api.OK)
	give(t, a, handleOf(4, 0), api.OK)
	take(t, a, handleOf(4, 1))
	take(t, a, handleOf(0, 2))
	take(t, a, handleOf(5, 0))
	takeNone(t, a, api.ErrFull)
}

// P4.2, P4.4: one place, taken often: each time another handle, each place by its own count, and none of the earlier ones holds.
func TestTakenOften(t *testing.T) {
	a := fresh(t, 2)
	take(t, a, 1)
	for ahead := range uint64(1 << 18) {
		h := handleOf(1, ahead)
		take(t, a, h)
		holds(t, a, h, 1)
		if ahead > 0 {
			holdsNot(t, a, handleOf(1, ahead-1))
		}
		give(t, a, h, api.OK)
		holdsNot(t, a, h)
		takenNot(t, a, 1)
	}
	last := handleOf(1, 1<<18)
	take(t, a, last)
	for ahead := range uint64(1 << 18) {
		if _, ok := a.Place(handleOf(1, ahead)); ok {
			t.Fatalf("the handle of count %d holds again", ahead)
		}
	}
	holds(t, a, last, 1)
	holds(t, a, 1, 0)
}

// P4.3: Handle of places that are not taken, or that there are not.
func TestHandleOfNone(t *testing.T) {
	a := fresh(t, 3)
	take(t, a, 1)
	take(t, a, 2)
	give(t, a, 1, api.OK)
	for _, place := range []int{0, 2, 3, 4, -1, -2, -3, api.MaxNodes, 1 << 32, 1<<32 + 1, -1 << 32, math.MinInt, math.MinInt + 1, math.MaxInt} {
		takenNot(t, a, place)
	}
	holds(t, a, 2, 1)
	counts(t, a, 1, 3)
}

// R4: arenas share nothing.
func TestApart(t *testing.T) {
	a, b := fresh(t, 2), fresh(t, 2)
	take(t, a, 1)
	holdsNot(t, b, 1)
	give(t, b, 1, api.ErrHandle)
	take(t, b, 1)
	take(t, b, 2)
	give(t, b, 1, api.OK)
	holds(t, a, 1, 0)
	counts(t, a, 1, 2)
	take(t, a, 2)
	takeNone(t, a, api.ErrFull)
	take(t, b, handleOf(0, 1))
}

// model is an arena by the chapter's words: how often each place was taken, whether it is, and the step at which it was given back.
type model struct {
	times []uint64
	taken []bool
	since []int // 0: never
	step  int
}

func newModel(room int) *model {
	return &model{times: make([]uint64, room), taken: make([]bool, room), since: make([]int, room)}
}

// next is the place that is to be taken, or -1.
func (m *model) next() int {
	best := -1
	for place, taken := range m.taken {
		if !taken && m.since[place] > 0 && (best < 0 || m.since[place] > m.since[best]) {
			best = place
		}
	}
	if best >= 0 {
		return best
	}
	return slices.Index(m.times, 0)
}

func (m *model) take() (uint64, api.Errno) {
	place := m.next()
	if place < 0 {
		return 0, api.ErrFull
	}
	m.taken[place] = true
	m.times[place]++
	return handleOf(place, m.times[place]-1), api.OK
}

// holder is the handle that holds of a place, or 0.
func (m *model) holder(place int) uint64 {
	if !m.taken[place] {
		return 0
	}
	return handleOf(place, m.times[place]-1)
}

func (m *model) give(h uint64) api.Errno {
	m.step++
	for place := range m.taken {
		if h != 0 && m.holder(place) == h {
			m.taken[place] = false
			m.since[place] = m.step
			return api.OK
		}
	}
	return api.ErrHandle
}

// same holds all that can be asked of the arena against the model, and every handle that was ever handed out.
func (m *model) same(t *testing.T, a *Arena, ever []uint64) {
	t.Helper()
	used := 0
	places := map[uint64]int{}
	for place := range m.taken {
		want := m.holder(place)
		if want != 0 {
			used++
			places[want] = place
		}
		if h, ok := a.Handle(place); h != want || ok != (want != 0) {
			t.Fatalf("Handle(%d): %d, %v, not %d", place, h, ok, want)
		}
	}
	counts(t, a, used, len(m.taken))
	for _, h := range ever {
		want, ok := places[h]
		if p, got := a.Place(h); p != want || got != ok {
			t.Fatalf("Place(%d): %d, %v, not %d, %v", h, p, got, want, ok)
		}
	}
}

// P4.1 to P4.4: long runs of takings and givings, of handles that hold, that held once, and of none, held against the model.
func TestModel(t *testing.T) {
	state := uint64(0x2545f4914f6cdd1d)
	draw := func(n int) int {
		state = state*6364136223846793005 + 1442695040888963407
		return int(state >> 33 % uint64(n))
	}
	for _, room := range []int{1, 2, 3, 5, 8, 13} {
		a, m := fresh(t, room), newModel(room)
		ever := []uint64{0}
		for step := range 600 {
			switch {
			case draw(20) < 9+2*(step/100%2): // now mostly filling, now mostly emptying
				h, e := a.Take()
				wantH, wantE := m.take()
				if h != wantH || e != wantE {
					t.Fatalf("room %d, step %d: Take: %d, %d, not %d, %d", room, step, h, e, wantH, wantE)
				}
				if e != api.OK {
					break
				}
				if slices.Contains(ever, h) {
					t.Fatalf("room %d, step %d: %d was handed out twice", room, step, h)
				}
				ever = append(ever, h)
			default:
				h := ever[draw(len(ever))]
				if held := m.holder(draw(room)); held != 0 && draw(3) > 0 {
					h = held
				}
				if e, want := a.Give(h), m.give(h); e != want {
					t.Fatalf("room %d, step %d: Give(%d): %d, not %d", room, step, h, e, want)
				}
			}
			m.same(t, a, ever)
		}
	}
}

// The last one of a list is taken away; the list that is handed in stays as it is.
func TestTakeLast(t *testing.T) {
	list := []string{"a", "b", "c"}
	last, rest, found := takeLast(list)
	if last != "c" || !slices.Equal(rest, []string{"a", "b"}) || !found {
		t.Error(last, rest, found)
	}
	if !slices.Equal(list, []string{"a", "b", "c"}) {
		t.Error(list)
	}
	if last, rest, found := takeLast([]int{7}); last != 7 || len(rest) != 0 || !found {
		t.Error(last, rest, found)
	}
	for _, none := range [][]int{nil, {}} {
		if last, rest, found := takeLast(none); last != 0 || rest != nil || found {
			t.Error(last, rest, found)
		}
	}
}
