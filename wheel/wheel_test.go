package wheel

import (
	"math"
	"slices"
	"sort"
	"testing"

	"sandglass/api"
)

func fresh(t *testing.T, slots int, width uint64, room int) *Wheel {
	t.Helper()
	w, e := New(slots, width, room)
	if w == nil || e != api.OK {
		t.Fatalf("New(%d, %d, %d): %v, %d", slots, width, room, w, e)
	}
	return w
}

func put(t *testing.T, w *Wheel, v, at uint64) {
	t.Helper()
	if e := w.Put(v, at); e != api.OK {
		t.Fatalf("Put(%d, %d): %d", v, at, e)
	}
}

// putAll puts numbers from 0 on, one for each instant.
func putAll(t *testing.T, w *Wheel, instants ...uint64) {
	t.Helper()
	for v, at := range instants {
		put(t, w, uint64(v), at)
	}
}

func advance(t *testing.T, w *Wheel, now uint64, want int) {
	t.Helper()
	if got := w.Advance(now); got != want {
		t.Fatalf("Advance(%d): %d, not %d", now, got, want)
	}
}

func cursor(t *testing.T, w *Wheel, want uint64) {
	t.Helper()
	if got := w.Cursor(); got != want {
		t.Fatalf("Cursor(): %d, not %d", got, want)
	}
}

func next(t *testing.T, w *Wheel, want uint64, wantOK bool) {
	t.Helper()
	if at, ok := w.Next(); at != want || ok != wantOK {
		t.Fatalf("Next(): %d, %v, not %d, %v", at, ok, want, wantOK)
	}
}

func held(t *testing.T, w *Wheel, want ...int) {
	t.Helper()
	if got := w.Held(); !slices.Equal(got, want) {
		t.Fatalf("Held(): %v, not %v", got, want)
	}
}

// counts holds how many wait and how many are due.
func counts(t *testing.T, w *Wheel, waits, due int) {
	t.Helper()
	if w.Waits() != waits || w.Due() != due {
		t.Fatalf("Waits(), Due(): %d, %d, not %d, %d", w.Waits(), w.Due(), waits, due)
	}
}

// taken takes all that is due, and one more.
func taken(t *testing.T, w *Wheel, want ...uint64) {
	t.Helper()
	for i, v := range want {
		if got, ok := w.Take(); got != v || !ok {
			t.Fatalf("Take(), number %d of %d: %d, %v, not %d", i, len(want), got, ok, v)
		}
	}
	if got, ok := w.Take(); got != 0 || ok {
		t.Fatalf("Take() behind %d: %d, %v", len(want), got, ok)
	}
}

// one is a thing of the model: what was put, and the slot in which it stands.
type one struct{ v, at, stands uint64 }

// model is a wheel by the chapter's words alone: things in the order in which they were put.
type model struct {
	slots, width, cursor uint64
	room                 int
	waits                []one
	due                  []uint64
}

// slotOf is the first slot that does not begin ahead of an instant.
func (m *model) slotOf(at uint64) uint64 {
	if at%m.width == 0 {
		return at / m.width
	}
	return at/m.width + 1
}

// where is the slot in which one for an instant stands, if it is put now.
func (m *model) where(at uint64) uint64 {
	last := m.cursor + m.slots - 1
	if last < m.cursor {
		last = math.MaxUint64
	}
	return min(max(m.slotOf(at), m.cursor), last)
}

func (m *model) put(v, at uint64) api.Errno {
	if len(m.waits)+len(m.due) >= m.room {
		return api.ErrFull
	}
	m.waits = append(m.waits, one{v, at, m.where(at)})
	return api.OK
}

func (m *model) advance(now uint64) int {
	m.cursor = max(m.cursor, now/m.width)
	var due, others []one
	for _, x := range m.waits {
		if m.slotOf(x.at) <= m.cursor {
			due = append(due, x)
			continue
		}
		if x.stands <= m.cursor {
			x.stands = m.where(x.at)
		}
		others = append(others, x)
	}
	sort.SliceStable(due, func(i, j int) bool { return m.slotOf(due[i].at) < m.slotOf(due[j].at) })
	for _, x := range due {
		m.due = append(m.due, x.v)
	}
	m.waits = others
	return len(due)
}

func (m *model) take() (uint64, bool) {
	if len(m.due) == 0 {
		return 0, false
	}
	v := m.due[0]
	m.due = m.due[1:]
	return v, true
}

func (m *model) next() (uint64, bool) {
	if len(m.waits) == 0 {
		return 0, false
	}
	slot := m.waits[0].stands
	for _, x := range m.waits {
		slot = min(slot, x.stands)
	}
	if slot > math.MaxUint64/m.width {
		return math.MaxUint64, true
	}
	return slot * m.width, true
}

func (m *model) held() []int {
	out := make([]int, m.slots)
	for _, x := range m.waits {
		out[x.stands-m.cursor]++
	}
	return out
}

// same holds all that a wheel tells against the model, and its marks against its slots.
func same(t *testing.T, w *Wheel, m *model) {
	t.Helper()
	counts(t, w, len(m.waits), len(m.due))
	cursor(t, w, m.cursor)
	at, ok := m.next()
	next(t, w, at, ok)
	held(t, w, m.held()...)
	for place, things := range w.slots {
		if w.filled.Has(place) != (len(things) > 0) {
			t.Fatalf("place %d: %d things, marked %v", place, len(things), w.filled.Has(place))
		}
	}
}

// The chapter's examples.
func TestExamples(t *testing.T) {
	w := fresh(t, 4, 10, 5)
	put(t, w, 7, 25)
	put(t, w, 8, 12)
	put(t, w, 9, 100)
	held(t, w, 0, 0, 1, 2)
	next(t, w, 20, true)
	advance(t, w, 19, 0)
	cursor(t, w, 1)
	held(t, w, 0, 1, 2, 0)
	advance(t, w, 29, 1)
	cursor(t, w, 2)
	held(t, w, 0, 2, 0, 0)
	taken(t, w, 8)
	advance(t, w, 35, 1)
	cursor(t, w, 3)
	held(t, w, 0, 0, 0, 1)
	next(t, w, 60, true)
	taken(t, w, 7)
}

// P9.1: numbers that may not be, each by itself, and all at once.
func TestNewRefused(t *testing.T) {
	refused := func(slots int, width uint64, room int) {
		t.Helper()
		if w, e := New(slots, width, room); w != nil || e != api.ErrArg {
			t.Errorf("New(%d, %d, %d): %v, %d", slots, width, room, w, e)
		}
	}
	for _, slots := range []int{math.MinInt, -1 << 32, -4096, -2, -1, 0, 1, api.MaxSlots + 1, api.MaxNodes, 1<<32 + 2, math.MaxInt} {
		refused(slots, 1, 1)
		refused(slots, 0, 0)
	}
	for _, width := range []uint64{0, api.MaxWidth + 1, 1 << 41, 1<<63 + 1, math.MaxUint64} {
		refused(2, width, 1)
	}
	for _, room := range []int{math.MinInt, -1 << 32, -api.MaxItems, -1, 0, api.MaxItems + 1, 1<<32 + 1, math.MaxInt} {
		refused(2, 1, room)
	}
}

// P9.1: a wheel of each end of what may be is without things, at the slot 0, and has slots and room as it was told.
func TestNew(t *testing.T) {
	for _, slots := range []int{2, 3, 4095, 4096} {
		for _, width := range []uint64{1, 2, api.MaxWidth - 1, api.MaxWidth} {
			for _, room := range []int{1, 2, api.MaxItems - 1, api.MaxItems} {
				w := fresh(t, slots, width, room)
				counts(t, w, 0, 0)
				cursor(t, w, 0)
				next(t, w, 0, false)
				held(t, w, make([]int, slots)...)
				taken(t, w)
				advance(t, w, 0, 0)
				last := uint64(slots-1) * width
				put(t, w, 5, last)
				next(t, w, last, true)
				advance(t, w, last-1, 0)
				advance(t, w, last, 1)
				taken(t, w, 5)
			}
		}
	}
}

// P9.1: two wheels have nothing to do with each other.
func TestApart(t *testing.T) {
	a, b := fresh(t, 4, 10, 3), fresh(t, 4, 10, 3)
	put(t, a, 1, 10)
	put(t, b, 2, 20)
	advance(t, a, 10, 1)
	cursor(t, b, 0)
	held(t, b, 0, 0, 1, 0)
	taken(t, b)
	taken(t, a, 1)
	held(t, a, 0, 0, 0, 0)
}

// R5: no wheel, and such as New did not answer, at every call.
func TestNoWheel(t *testing.T) {
	made := fresh(t, 4, 10, 5)
	putAll(t, made, 0, 10, 30)
	advance(t, made, 10, 2)
	copied := *made
	for _, w := range []*Wheel{nil, {}, new(Wheel), &copied} {
		for range 2 { // the first round leaves nothing behind
			for _, at := range []uint64{0, 1, 25, math.MaxUint64} {
				if e := w.Put(at, at); e != api.ErrNil {
					t.Fatalf("Put(%d, %d): %d", at, at, e)
				}
				advance(t, w, at, 0)
				taken(t, w)
				counts(t, w, 0, 0)
				cursor(t, w, 0)
				next(t, w, 0, false)
				held(t, w)
			}
		}
	}
	counts(t, made, 1, 2)
	held(t, made, 0, 0, 1, 0)
	taken(t, made, 0, 1)
}

// P9.2: what waits and what is due takes room until it is taken; what is refused changes nothing.
func TestFull(t *testing.T) {
	for _, room := range []int{1, 2, 5, 300} {
		w := fresh(t, 4, 10, room)
		full := func() {
			t.Helper()
			before, waits, due := w.Held(), w.Waits(), w.Due()
			for _, at := range []uint64{0, 10, 15, math.MaxUint64} {
				if e := w.Put(99, at); e != api.ErrFull {
					t.Fatalf("room %d: Put(99, %d): %d", room, at, e)
				}
			}
			counts(t, w, waits, due)
			held(t, w, before...)
		}
		var want []uint64
		for v := range uint64(room) {
			put(t, w, v, 10)
			want = append(want, v)
		}
		full()
		advance(t, w, 10, room)
		full()
		for i := range room { // one place more with each that is taken
			if v, ok := w.Take(); v != want[i] || !ok {
				t.Fatalf("room %d: Take(): %d, %v", room, v, ok)
			}
			put(t, w, uint64(room+i), 20)
			full()
		}
		counts(t, w, room, 0)
		advance(t, w, 20, room)
		for i := range want {
			want[i] += uint64(room)
		}
		taken(t, w, want...)
	}
}

// P9.2: the greatest room.
func TestGreatestRoom(t *testing.T) {
	w := fresh(t, api.MaxSlots, 3, api.MaxItems)
	var want []uint64
	for v := range uint64(api.MaxItems) {
		put(t, w, v, 3*(v%api.MaxSlots))
	}
	for slot := range uint64(api.MaxSlots) {
		for v := slot; v < api.MaxItems; v += api.MaxSlots {
			want = append(want, v)
		}
	}
	if e := w.Put(1, 1); e != api.ErrFull {
		t.Fatal(e)
	}
	advance(t, w, math.MaxUint64, api.MaxItems)
	if e := w.Put(1, 1); e != api.ErrFull {
		t.Fatal(e)
	}
	taken(t, w, want...)
	put(t, w, 1, 1)
}

// P9.2, P9.3: where one stands that is put, from the slot 0 and from a later one.
func TestPutStands(t *testing.T) {
	for _, c := range []struct {
		now, at uint64
		ahead   int // how many slots it stands behind the cursor
		next    uint64
	}{
		{0, 0, 0, 0}, {0, 1, 1, 10}, {0, 9, 1, 10}, {0, 10, 1, 10}, {0, 11, 2, 20}, {0, 19, 2, 20}, {0, 20, 2, 20}, {0, 21, 3, 30},
		{0, 30, 3, 30}, {0, 31, 3, 30}, {0, 40, 3, 30}, {0, 1000, 3, 30}, {0, math.MaxUint64 - 1, 3, 30}, {0, math.MaxUint64, 3, 30},
		{57, 0, 0, 50}, {57, 1, 0, 50}, {57, 49, 0, 50}, {57, 50, 0, 50}, {57, 51, 1, 60}, {57, 57, 1, 60}, {57, 58, 1, 60}, {57, 60, 1, 60},
		{57, 61, 2, 70}, {57, 79, 3, 80}, {57, 80, 3, 80}, {57, 81, 3, 80}, {57, math.MaxUint64, 3, 80},
	} {
		w := fresh(t, 4, 10, 1)
		advance(t, w, c.now, 0)
		put(t, w, 6, c.at)
		want := make([]int, 4)
		want[c.ahead] = 1
		held(t, w, want...)
		next(t, w, c.next, true)
		counts(t, w, 1, 0)
		cursor(t, w, c.now/10)
		taken(t, w)
	}
}

// P9.2, P9.4: one is due as soon as the cursor has come to its slot, and never ahead of that; at a slot's begin, just ahead of it and just behind it.
func TestDueAtItsSlot(t *testing.T) {
	for _, slots := range []int{2, 3, 4, 64, 65} {
		for _, width := range []uint64{1, 2, 10, 1 << 40} {
			for _, slot := range []uint64{1, 2, 3, 4, 63, 64, 65, 200} {
				for _, off := range []uint64{0, 1, width - 1, width} {
					at := (slot-1)*width + off
					begin := slot * width
					if off == 0 {
						begin -= width
					}
					if at == 0 {
						continue
					}
					w := fresh(t, slots, width, 1)
					put(t, w, 6, at)
					advance(t, w, begin-1, 0)
					taken(t, w)
					counts(t, w, 1, 0)
					advance(t, w, begin, 1)
					taken(t, w, 6)
					counts(t, w, 0, 0)
				}
			}
		}
	}
}

// P9.2: the cursor never goes back, and stays at an instant of its own slot; what was put since is due even so, if it is not beyond.
func TestAdvanceStays(t *testing.T) {
	w := fresh(t, 4, 10, 9)
	advance(t, w, 57, 0)
	cursor(t, w, 5)
	putAll(t, w, 50, 51, 3)
	for _, now := range []uint64{0, 49, 50, 57, 59} {
		due := 0
		if now == 0 {
			due = 2
		}
		advance(t, w, now, due)
		cursor(t, w, 5)
		held(t, w, 0, 1, 0, 0)
		next(t, w, 60, true)
		counts(t, w, 1, 2)
	}
	taken(t, w, 2, 0)
	advance(t, w, 60, 1)
	cursor(t, w, 6)
	taken(t, w, 1)
	advance(t, w, 60, 0)
	advance(t, w, 0, 0)
	cursor(t, w, 6)
}

// P9.2: by no slot, by one, by all but one, by all, by one more, and by far more than all.
func TestAdvanceBy(t *testing.T) {
	for _, slots := range []uint64{2, 3, 4, 7} {
		for _, from := range []uint64{0, 1, 2, 3, 6, 7, 100, 1 << 40} {
			for _, by := range []uint64{0, 1, 2, slots - 1, slots, slots + 1, 2*slots - 1, 2 * slots, 5 * slots, 1 << 45} {
				m := &model{slots: slots, width: 10, room: 40}
				w := fresh(t, int(slots), 10, 40)
				if w.Advance(from*10) != m.advance(from*10) {
					t.Fatal("Advance of an empty wheel")
				}
				for v := range uint64(40) {
					at := (from + v/4) * 10
					at += []uint64{0, 1, 9, 10}[v%4]
					put(t, w, v, at)
					m.put(v, at)
				}
				same(t, w, m)
				for range 2 {
					now := (from+by)*10 + 9
					advance(t, w, now, m.advance(now))
					same(t, w, m)
				}
				taken(t, w, m.due...)
			}
		}
	}
}

// P9.2: things that are due come by the slots of their instants, of one slot in the order in which they were put, wherever they stood.
func TestDueInOrder(t *testing.T) {
	w := fresh(t, 3, 10, 20)
	putAll(t, w, 40, 20, 31, 11, 0, 35, 20, 5, 40, 12)
	held(t, w, 1, 1, 8)
	advance(t, w, 45, 10)
	taken(t, w, 4, 7, 1, 3, 6, 9, 0, 2, 5, 8)

	// At the cursor stand all whose instants are over: they are apart by the slots of these, all the same.
	putAll(t, w, 40, 21, 39, 0, 40, 1, 10, 20)
	held(t, w, 8, 0, 0)
	next(t, w, 40, true)
	advance(t, w, 0, 8)
	taken(t, w, 3, 5, 6, 7, 1, 0, 2, 4)
}

// P9.2: what is due by now comes behind all that was due already, though its slot be an earlier one.
func TestDueBehindThoseDue(t *testing.T) {
	w := fresh(t, 8, 10, 20)
	putAll(t, w, 30, 20)
	advance(t, w, 30, 2)
	put(t, w, 7, 0)
	put(t, w, 8, 10)
	put(t, w, 9, 5)
	advance(t, w, 30, 3)
	put(t, w, 6, 40)
	put(t, w, 5, 0)
	advance(t, w, 40, 2)
	counts(t, w, 0, 7)
	taken(t, w, 1, 0, 7, 8, 9, 5, 6)
}

// P9.2: of one slot the order is that in which they were put, though one was put anew behind a later one that stood there at once.
func TestOrderOfThosePutAnew(t *testing.T) {
	w := fresh(t, 4, 10, 5)
	put(t, w, 1, 45) // slot 5; it stands in 3
	advance(t, w, 25, 0)
	put(t, w, 2, 50) // slot 5, at once
	held(t, w, 0, 1, 0, 1)
	advance(t, w, 30, 0) // the first one comes into the slot 5 only now
	held(t, w, 0, 0, 2, 0)
	put(t, w, 3, 41)
	advance(t, w, 50, 3)
	taken(t, w, 1, 2, 3)
}

// P9.2, P9.3: one whose slot is beyond stands in the last one, is put anew each time the cursor comes there, and is due at its own.
func TestPutAnew(t *testing.T) {
	w := fresh(t, 3, 10, 2)
	put(t, w, 1, 75) // slot 8
	held(t, w, 0, 0, 1)
	next(t, w, 20, true)
	advance(t, w, 10, 0)
	held(t, w, 0, 1, 0) // it stays, though a later slot is there now
	next(t, w, 20, true)
	advance(t, w, 20, 0)
	held(t, w, 0, 0, 1)
	next(t, w, 40, true)
	advance(t, w, 55, 0) // beyond where it stood
	cursor(t, w, 5)
	held(t, w, 0, 0, 1)
	next(t, w, 70, true)
	advance(t, w, 60, 0)
	held(t, w, 0, 1, 0)
	next(t, w, 70, true)
	advance(t, w, 79, 0)
	held(t, w, 0, 1, 0) // in its own at last
	next(t, w, 80, true)
	counts(t, w, 1, 0)
	advance(t, w, 80, 1)
	held(t, w, 0, 0, 0)
	next(t, w, 0, false)
	taken(t, w, 1)
}

// P9.2, P9.4: looked at again whenever Next tells, a wheel comes to its end, each thing due within a width behind its instant.
func TestAlongNext(t *testing.T) {
	instants := []uint64{0, 1, 9, 10, 11, 99, 100, 101, 500, 777, 1000, 1001, 12345}
	for _, slots := range []int{2, 3, 16, 100, 4096} {
		w := fresh(t, slots, 10, len(instants))
		putAll(t, w, instants...)
		for at, ok := w.Next(); ok; at, ok = w.Next() {
			w.Advance(at)
			for v, some := w.Take(); some; v, some = w.Take() {
				if due := instants[v]; at < due || at-due >= 10 {
					t.Fatalf("%d slots: %d is due at %d", slots, due, at)
				}
			}
		}
		counts(t, w, 0, 0)
	}
}

// P9.2, P9.3: the last instants there are: no slot is behind Never, and at width 1 the cursor comes there.
func TestLastInstants(t *testing.T) {
	const never = math.MaxUint64
	w := fresh(t, 4, 1, 9)
	putAll(t, w, never, never-1, 0)
	held(t, w, 1, 0, 0, 2)
	advance(t, w, never-2, 1)
	cursor(t, w, never-2)
	held(t, w, 0, 1, 1, 0)
	next(t, w, never-1, true)
	put(t, w, 3, never-2)
	put(t, w, 4, never)
	put(t, w, 5, 7)
	held(t, w, 2, 1, 2, 0)
	advance(t, w, never-1, 3)
	cursor(t, w, never-1)
	held(t, w, 0, 2, 0, 0)
	next(t, w, never, true)
	advance(t, w, never, 2)
	cursor(t, w, never)
	held(t, w, 0, 0, 0, 0)
	next(t, w, 0, false)
	taken(t, w, 2, 5, 3, 1, 0, 4)
	putAll(t, w, never, 0)
	held(t, w, 2, 0, 0, 0)
	next(t, w, never, true)
	advance(t, w, 0, 2)
	taken(t, w, 1, 0)
}

// P9.2, P9.3: where the width does not divide the last instant, its slot begins behind it: nothing comes there, and Next is kept.
func TestSlotBehindNever(t *testing.T) {
	const never = math.MaxUint64
	for _, width := range []uint64{2, 10, 1 << 40} {
		w := fresh(t, 2, width, 5)
		last := never / width
		putAll(t, w, never, last*width, last*width+1)
		held(t, w, 0, 3)
		advance(t, w, never, 1)
		cursor(t, w, last)
		held(t, w, 0, 2)
		next(t, w, never, true)
		advance(t, w, never, 0)
		counts(t, w, 2, 1)
		taken(t, w, 1)
	}
	w := fresh(t, 2, 5, 5) // 5 divides it
	putAll(t, w, never, never-4, never-5)
	advance(t, w, never-1, 1)
	held(t, w, 0, 2)
	next(t, w, never, true)
	advance(t, w, never, 2)
	taken(t, w, 2, 0, 1)
}

// P9.2: any number is a thing, one that is there already, too, and 0 is told apart from none.
func TestAnyNumber(t *testing.T) {
	w := fresh(t, 2, 1, 6)
	for _, v := range []uint64{0, math.MaxUint64, 5, 5, 0, 1 << 63} {
		put(t, w, v, 1)
	}
	taken(t, w)
	advance(t, w, 1, 6)
	taken(t, w, 0, math.MaxUint64, 5, 5, 0, 1<<63)
}

// P9.3, R3: what Held tells is in memory of its own.
func TestHeldApart(t *testing.T) {
	w := fresh(t, 4, 10, 5)
	putAll(t, w, 0, 10, 10)
	first, second := w.Held(), w.Held()
	for i := range first {
		first[i] = 77
	}
	first = append(first, 78)
	if !slices.Equal(second, []int{1, 2, 0, 0}) || len(first) != 5 {
		t.Fatal(first, second)
	}
	held(t, w, 1, 2, 0, 0)
	advance(t, w, 10, 3)
	if !slices.Equal(second, []int{1, 2, 0, 0}) {
		t.Fatal(second)
	}
	held(t, w, 0, 0, 0, 0)
	taken(t, w, 0, 1, 2)
}

// P9.3: what a slot held is forgotten when the cursor goes on, so that a wheel keeps no more than it has room for.
func TestSlotsForget(t *testing.T) {
	w := fresh(t, 4, 1, 100)
	for now := range uint64(8) {
		for v := range uint64(100) {
			put(t, w, v, now)
		}
		advance(t, w, now, 100)
		for range 100 {
			w.Take()
		}
	}
	for place, things := range w.slots {
		if cap(things) != 0 {
			t.Errorf("place %d keeps room for %d", place, cap(things))
		}
	}
}

// drawer draws numbers below n, the same ones at each run.
func drawer(seed uint64) func(n uint64) uint64 {
	state := seed + 0x9e3779b97f4a7c15
	return func(n uint64) uint64 {
		state = state*6364136223846793005 + 1442695040888963407
		return state >> 33 % n
	}
}

// near draws an instant around the cursor's: ahead of it, within the slots, at their begins and beside these, beyond them, and at both ends of the numbers.
func near(draw func(n uint64) uint64, m *model) uint64 {
	begin := m.cursor * m.width
	within := begin + draw(m.slots+1)*m.width
	switch draw(8) {
	case 0:
		return begin - min(begin, draw(3*m.width))
	case 1:
		return within
	case 2:
		return within + 1
	case 3:
		return within - min(within, 1)
	case 4:
		return begin + draw(5*m.slots)*m.width + draw(m.width)
	case 5:
		if draw(10) == 0 {
			return []uint64{0, math.MaxUint64, math.MaxUint64 - draw(9)}[draw(3)]
		}
		return within
	}
	return begin + draw(m.slots*m.width)
}

// P9.1 to P9.4: long runs, held against a model by the chapter's words.
func TestLongRuns(t *testing.T) {
	for seed, c := range []struct {
		slots int
		width uint64
		room  int
		from  uint64
	}{
		{2, 1, 3, 0}, {2, 10, 50, 0}, {3, 1, 20, 0}, {4, 10, 20, 0}, {7, 3, 60, 1 << 50}, {16, 1000, 100, 0}, {64, 2, 200, 12345}, {65, 7, 40, 0},
		{200, 1 << 20, 300, 0}, {4095, 3, 100, 0}, {4096, 1 << 18, 100, 1 << 60}, {5, 1, 40, math.MaxUint64 - 3000}, {8, 10, 40, math.MaxUint64 - 30000}, {100, 16, 40, math.MaxUint64 - 90000},
	} {
		draw := drawer(uint64(seed))
		w := fresh(t, c.slots, c.width, c.room)
		m := &model{slots: uint64(c.slots), width: c.width, room: c.room}
		advance(t, w, c.from, m.advance(c.from))
		for step := range 3000 {
			switch draw(6) {
			case 0:
				at := near(draw, m)
				if at > math.MaxUint64-10 && draw(20) > 0 { // it would end all too early
					at = m.cursor * m.width
				}
				advance(t, w, at, m.advance(at))
			case 1, 2:
				want, wantOK := m.take()
				if v, ok := w.Take(); v != want || ok != wantOK {
					t.Fatalf("%v, step %d: Take(): %d, %v, not %d, %v", c, step, v, ok, want, wantOK)
				}
			default:
				at := near(draw, m)
				want := m.put(uint64(step), at)
				if e := w.Put(uint64(step), at); e != want {
					t.Fatalf("%v, step %d: Put(%d, %d): %d, not %d", c, step, step, at, e, want)
				}
			}
			if step%3 == 0 || c.slots < 100 {
				same(t, w, m)
			}
		}
		advance(t, w, math.MaxUint64, m.advance(math.MaxUint64))
		same(t, w, m)
		taken(t, w, m.due...)
	}
}

// P9.4: in one step, or in many, the same are due, in the same order; and what waits then is due in the same order later.
func TestOneStepOrMany(t *testing.T) {
	for seed := range uint64(60) {
		draw := drawer(seed)
		slots, width := int(2+draw(9)), 1+draw(12)
		from, to := draw(40)*width, 1+draw(60)*width
		var instants []uint64
		for range 80 {
			instants = append(instants, draw(80*width))
		}
		run := func(steps func(w *Wheel)) (first, all []uint64, waits int) {
			w := fresh(t, slots, width, len(instants))
			w.Advance(from)
			putAll(t, w, instants...)
			steps(w)
			w.Advance(from + to)
			waits = w.Waits()
			for v, ok := w.Take(); ok; v, ok = w.Take() {
				first = append(first, v)
			}
			w.Advance(from + to + 100*width)
			for v, ok := w.Take(); ok; v, ok = w.Take() {
				all = append(all, v)
			}
			counts(t, w, 0, 0)
			return first, append(slices.Clone(first), all...), waits
		}
		first, all, waits := run(func(w *Wheel) {})
		if len(first)+waits != len(instants) || len(all) != len(instants) {
			t.Fatalf("seed %d: %d are due, %d wait, %d in all", seed, len(first), waits, len(all))
		}
		for _, by := range []uint64{1, 2, width, width + 1, 3 * width, uint64(slots) * width} {
			gotFirst, gotAll, gotWaits := run(func(w *Wheel) {
				for now := from; now < from+to; now += by {
					w.Advance(now)
				}
			})
			if gotWaits != waits || !slices.Equal(gotFirst, first) || !slices.Equal(gotAll, all) {
				t.Fatalf("seed %d, by %d: %v, not %v", seed, by, gotAll, all)
			}
		}
	}
}
