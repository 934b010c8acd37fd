package store

import (
	"math"
	"slices"
	"testing"

	"sandglass/api"
	"sandglass/arena"
)

const never = uint64(api.Never)

// handleOf is the handle of a place that was taken so often ahead of it, by layer 4's words.
func handleOf(place int, ahead uint64) uint64 {
	return ahead*4294967296 + uint64(place) + 1
}

// full is a packet with something in each of its fields, of so many bytes.
func full(n int) api.Packet {
	return api.Packet{Sock: never - uint64(n), Cookie: 1<<40 + uint64(n), Len: n, Prio: uint8(n % 16), At: 3*uint64(n) + 1}
}

func fresh(t *testing.T, room int) *Store {
	t.Helper()
	s, e := New(room)
	if s == nil || e != api.OK {
		t.Fatalf("New(%d): %v, %d", room, s, e)
	}
	return s
}

func put(t *testing.T, s *Store, p api.Packet, now, want uint64) {
	t.Helper()
	if h, e := s.Put(p, now); h != want || e != api.OK {
		t.Fatalf("Put(%v, %d): %d, %d, not %d", p, now, h, e, want)
	}
}

// refused: a packet is refused, and that changes no count.
func refused(t *testing.T, s *Store, p api.Packet, want api.Errno) {
	t.Helper()
	count, bytes, next := s.Count(), s.Bytes(), s.Next()
	if h, e := s.Put(p, 5); h != 0 || e != want {
		t.Fatalf("Put(%v, 5): %d, %d, not 0, %d", p, h, e, want)
	}
	counts(t, s, count, bytes, next)
}

// holds: what is held is told, as often as one asks.
func holds(t *testing.T, s *Store, h uint64, p api.Packet, seq, came uint64) {
	t.Helper()
	want := api.Held{Packet: p, Seq: seq, Came: came}
	for range 2 {
		if x, ok := s.Get(h); x != want || !ok {
			t.Fatalf("Get(%d): %v, %v, not %v", h, x, ok, want)
		}
	}
}

// holdsNot: there is nothing to get, and nothing to free.
func holdsNot(t *testing.T, s *Store, h uint64) {
	t.Helper()
	count, bytes, next := s.Count(), s.Bytes(), s.Next()
	if x, ok := s.Get(h); x != (api.Held{}) || ok {
		t.Fatalf("Get(%d): %v, %v, though it does not hold", h, x, ok)
	}
	if x, ok := s.Free(h); x != (api.Held{}) || ok {
		t.Fatalf("Free(%d): %v, %v, though it does not hold", h, x, ok)
	}
	counts(t, s, count, bytes, next)
}

// free frees what is held, and looks whether it is held no more.
func free(t *testing.T, s *Store, h uint64, p api.Packet, seq, came uint64) {
	t.Helper()
	want := api.Held{Packet: p, Seq: seq, Came: came}
	if x, ok := s.Free(h); x != want || !ok {
		t.Fatalf("Free(%d): %v, %v, not %v", h, x, ok, want)
	}
	holdsNot(t, s, h)
}

func counts(t *testing.T, s *Store, count, bytes int, next uint64) {
	t.Helper()
	if s.Count() != count || s.Bytes() != bytes || s.Next() != next {
		t.Fatalf("Count, Bytes, Next: %d, %d, %d, not %d, %d, %d", s.Count(), s.Bytes(), s.Next(), count, bytes, next)
	}
}

// strangers: numbers that are the handle of nothing in a store of room 4 into which two packets were put.
func strangers() []uint64 {
	return []uint64{
		0,                                   // no place
		1 << 32, 2 << 32, never - 1<<32 + 1, // no place, with a count
		handleOf(2, 0), handleOf(3, 0), handleOf(2, 1), // never taken
		handleOf(4, 0), handleOf(5, 0), handleOf(4, 1), // beyond the room
		handleOf(api.MaxNodes-1, 0), handleOf(api.MaxNodes, 0),
		1<<31 - 1, 1 << 31, 1<<31 + 1, 1<<32 - 1, // far beyond it
		handleOf(0, 1), handleOf(1, 1), handleOf(0, 2), handleOf(0, 1<<32-1), handleOf(1, 1<<31), // a right place, a wrong count
		1<<16 + 1, 1<<16 + 2, 1<<31 + 2, // a right place in fewer bits
		never, never - 1, 1 << 63, 1<<63 + 1, 1<<63 + 2,
	}
}

// The chapter's examples.
func TestExamples(t *testing.T) {
	s := fresh(t, 2)
	put(t, s, api.Packet{Len: 100}, 0, 1)
	put(t, s, api.Packet{Len: 50}, 0, 2)
	refused(t, s, api.Packet{Len: 1}, api.ErrFull)
	counts(t, s, 2, 150, 3)
	free(t, s, 1, api.Packet{Len: 100}, 1, 0)
	put(t, s, api.Packet{Len: 7}, 0, 1<<32+1)
	holds(t, s, 1<<32+1, api.Packet{Len: 7}, 3, 0)
	holdsNot(t, s, 1)
	refused(t, s, api.Packet{}, api.ErrArg)
}

// P10.1: rooms that may not be.
func TestRoomsRefused(t *testing.T) {
	for _, room := range []int{0, -1, -2, -api.MaxNodes, math.MinInt, api.MaxNodes + 1, 2 * api.MaxNodes, 1 << 20, 1<<32 + 1, math.MaxInt} {
		if s, e := New(room); s != nil || e != api.ErrArg {
			t.Errorf("New(%d): %v, %d", room, s, e)
		}
	}
}

// P10.1, P10.2: a store holds nothing at first, and then as many packets as it has room for.
func TestUntilFull(t *testing.T) {
	for _, room := range []int{1, 2, 3, 64, api.MaxNodes - 1, api.MaxNodes} {
		s := fresh(t, room)
		counts(t, s, 0, 0, 1)
		holdsNot(t, s, 1)
		bytes := 0
		for place := range room {
			n := place%api.MaxLen + 1
			put(t, s, full(n), uint64(place), handleOf(place, 0))
			bytes += n
			counts(t, s, place+1, bytes, uint64(place)+2)
		}
		for range 3 {
			refused(t, s, full(1), api.ErrFull)
		}
		for place := range room {
			n := place%api.MaxLen + 1
			holds(t, s, handleOf(place, 0), full(n), uint64(place)+1, uint64(place))
			free(t, s, handleOf(place, 0), full(n), uint64(place)+1, uint64(place))
			bytes -= n
			counts(t, s, room-place-1, bytes, uint64(room)+1)
		}
		counts(t, s, 0, 0, uint64(room)+1)
		put(t, s, full(9), never, handleOf(room-1, 1)) // the place that was given back last
		holds(t, s, handleOf(room-1, 1), full(9), uint64(room)+1, never)
	}
}

// P10.1: as many bytes as a store can ever hold.
func TestMostBytes(t *testing.T) {
	s := fresh(t, api.MaxNodes)
	for range api.MaxNodes {
		if _, e := s.Put(api.Packet{Len: api.MaxLen}, 0); e != api.OK {
			t.Fatal(e)
		}
	}
	counts(t, s, 65536, 65536*65536, 65537)
}

// P10.2: which packets may be held, by their bytes and by their priority.
func TestMayBeHeld(t *testing.T) {
	for _, n := range []int{1, 2, 1500, api.MaxLen - 1, api.MaxLen} {
		for _, prio := range []uint8{0, 1, 14, api.MaxPrio} {
			s := fresh(t, 1)
			p := api.Packet{Len: n, Prio: prio}
			put(t, s, p, 0, 1)
			counts(t, s, 1, n, 2)
			holds(t, s, 1, p, 1, 0)
		}
	}
}

// unfit is packets that may not be held.
func unfit() []api.Packet {
	var all []api.Packet
	for _, n := range []int{0, -1, -2, -api.MaxLen, math.MinInt, api.MaxLen + 1, 2 * api.MaxLen, 1<<32 + 1, math.MaxInt} {
		all = append(all, api.Packet{Len: n}, api.Packet{Sock: 1, Cookie: 2, Len: n, Prio: api.MaxPrio, At: 3})
	}
	for _, prio := range []uint8{16, 17, 31, 32, 128, 255} {
		all = append(all, api.Packet{Len: 1, Prio: prio}, api.Packet{Sock: 1, Cookie: 2, Len: api.MaxLen, Prio: prio, At: 3})
	}
	return append(all, api.Packet{Prio: 16}, api.Packet{Len: api.MaxLen + 1, Prio: 255})
}

// P10.2: packets that may not be held, in an empty store, in one that is partly full, and in one without room: they take neither place nor number.
func TestUnfit(t *testing.T) {
	s := fresh(t, 2)
	for place := range 3 {
		for _, p := range unfit() {
			refused(t, s, p, api.ErrArg)
		}
		if place < 2 {
			put(t, s, full(place+1), 7, handleOf(place, 0))
		}
	}
	refused(t, s, full(3), api.ErrFull)
	holds(t, s, 1, full(1), 1, 7)
	holds(t, s, 2, full(2), 2, 7)
	counts(t, s, 2, 3, 3)
}

// P10.2: all that a packet has, and its now, is told as it was put, whatever it is.
func TestToldAsPut(t *testing.T) {
	most := api.Packet{Sock: never, Cookie: never, Len: api.MaxLen, Prio: api.MaxPrio, At: never}
	for _, p := range []api.Packet{{Len: 1}, {Sock: 1, Len: 1}, {Cookie: 1, Len: 1}, {Len: 1, Prio: 1}, {Len: 1, At: 1}, most} {
		for _, now := range []uint64{0, 1, 1 << 32, never} { // of an instant ahead of the packet's, of that, and of a later one
			s := fresh(t, 1)
			put(t, s, p, now, 1)
			holds(t, s, 1, p, 1, now)
			free(t, s, 1, p, 1, now)
			counts(t, s, 0, 0, 2)
		}
	}
}

// P10.2: a now that is ahead of an earlier one, and packets that are alike, are held each by itself.
func TestAlike(t *testing.T) {
	s := fresh(t, 3)
	put(t, s, full(4), 9, 1)
	put(t, s, full(4), 2, 2)
	put(t, s, full(4), 9, 3)
	holds(t, s, 1, full(4), 1, 9)
	holds(t, s, 2, full(4), 2, 2)
	free(t, s, 1, full(4), 1, 9)
	holds(t, s, 3, full(4), 3, 9)
	counts(t, s, 2, 8, 4)
}

// P10.3: a handle that was freed holds no more, also where its place was taken again, and is freed once.
func TestFreedOnce(t *testing.T) {
	s := fresh(t, 3)
	put(t, s, full(10), 1, 1)
	put(t, s, full(20), 2, 2)
	free(t, s, 1, full(10), 1, 1)
	counts(t, s, 1, 20, 3)
	for ahead := range uint64(1000) {
		h := handleOf(0, ahead+1)
		holdsNot(t, s, h)
		put(t, s, full(30), 3, h)
		holdsNot(t, s, handleOf(0, ahead))
		holdsNot(t, s, 1)
		holds(t, s, h, full(30), ahead+3, 3)
		holds(t, s, 2, full(20), 2, 2)
		counts(t, s, 2, 50, ahead+4)
		free(t, s, h, full(30), ahead+3, 3)
		counts(t, s, 1, 20, ahead+4)
	}
}

// P10.3: what never was a handle of the store holds nothing, and asking for it changes nothing.
func TestStrangers(t *testing.T) {
	s := fresh(t, 4)
	for _, h := range append(strangers(), 1, 2) {
		holdsNot(t, s, h)
	}
	put(t, s, full(10), 1, 1)
	put(t, s, full(20), 2, 2)
	for _, h := range strangers() {
		holdsNot(t, s, h)
		holds(t, s, 1, full(10), 1, 1)
		holds(t, s, 2, full(20), 2, 2)
		counts(t, s, 2, 30, 3)
	}
	put(t, s, full(30), 3, 3)
	put(t, s, full(40), 4, 4)
	refused(t, s, full(1), api.ErrFull)
}

// R5: no store, and such as New did not answer, at every call.
func TestNoStore(t *testing.T) {
	made := fresh(t, 3)
	put(t, made, full(10), 1, 1)
	put(t, made, full(20), 2, 2)
	copied := *made
	places, _ := arena.New(3)
	for _, s := range []*Store{nil, {}, new(Store), {Arena: places}, {Arena: places, next: 1}, &copied} {
		for range 2 { // the first round leaves nothing behind
			for _, p := range append(unfit(), full(1), full(2), full(api.MaxLen)) {
				refused(t, s, p, api.ErrNil)
			}
			for _, h := range []uint64{0, 1, 2, 3, 1 << 32, 1<<32 + 1, never} {
				holdsNot(t, s, h)
			}
			counts(t, s, 0, 0, 0)
		}
	}
	holds(t, made, 1, full(10), 1, 1)
	holds(t, made, 2, full(20), 2, 2)
	counts(t, made, 2, 30, 3)
	put(t, made, full(30), 3, 3)
	if places.Used() != 0 {
		t.Error("a store that New did not answer has taken a place")
	}
}

// R4: stores share nothing.
func TestApart(t *testing.T) {
	a, b := fresh(t, 2), fresh(t, 2)
	put(t, a, full(10), 1, 1)
	holdsNot(t, b, 1)
	counts(t, b, 0, 0, 1)
	put(t, b, full(20), 2, 1)
	put(t, b, full(30), 3, 2)
	free(t, b, 1, full(20), 1, 2)
	holds(t, a, 1, full(10), 1, 1)
	counts(t, a, 1, 10, 2)
	counts(t, b, 1, 30, 3)
}

// R3: what is told is the asker's own.
func TestToldIsNew(t *testing.T) {
	s := fresh(t, 1)
	p := full(10)
	put(t, s, p, 1, 1)
	p.Len = 99
	x, _ := s.Get(1)
	x.Packet.Len, x.Seq, x.Came = 77, 77, 77
	free(t, s, 1, full(10), 1, 1)
	counts(t, s, 0, 0, 2)
}

// Ways: the arena's calls are the store's own: they tell of the places at which packets are held.
func TestPromoted(t *testing.T) {
	s := fresh(t, 3)
	put(t, s, full(10), 1, 1)
	put(t, s, full(20), 2, 2)
	free(t, s, 1, full(10), 1, 1)
	if s.Room() != 3 || s.Used() != 1 {
		t.Error(s.Room(), s.Used())
	}
	if place, ok := s.Place(2); place != 1 || !ok {
		t.Error(place, ok)
	}
	if h, ok := s.Handle(1); h != 2 || !ok {
		t.Error(h, ok)
	}
	if h, ok := s.Handle(0); h != 0 || ok {
		t.Error(h, ok)
	}
}

// P10.3: a place that was taken without a packet holds none, be it one that had a packet once, or one behind all that ever had; those around it are told as ever.
func TestTakenWithoutPacket(t *testing.T) {
	s := fresh(t, 4)
	put(t, s, full(10), 1, 1)
	free(t, s, 1, full(10), 1, 1)
	for _, want := range []uint64{handleOf(0, 1), 2, 3} {
		if h, e := s.Take(); h != want || e != api.OK {
			t.Fatal(h, e)
		}
		holdsNot(t, s, want)
	}
	put(t, s, full(20), 2, 4)
	holds(t, s, 4, full(20), 2, 2)
	for _, h := range []uint64{handleOf(0, 1), 2, 3} {
		holdsNot(t, s, h)
	}
	free(t, s, 4, full(20), 2, 2)
	if s.Bytes() != 0 || s.Next() != 3 {
		t.Error(s.Bytes(), s.Next())
	}
}

// model is a store by the chapter's words: what is held, by handles of an arena of its own.
type model struct {
	places *arena.Arena
	held   map[uint64]api.Held
	put    uint64 // how many were ever held
}

func newModel(t *testing.T, room int) *model {
	t.Helper()
	places, e := arena.New(room)
	if e != api.OK {
		t.Fatal(e)
	}
	return &model{places: places, held: map[uint64]api.Held{}}
}

func (m *model) putIn(p api.Packet, now uint64) (uint64, api.Errno) {
	if p.Len <= 0 || p.Len > 65536 || p.Prio > 15 {
		return 0, api.ErrArg
	}
	h, e := m.places.Take()
	if e != api.OK {
		return 0, api.ErrFull
	}
	m.put++
	m.held[h] = api.Held{Packet: p, Seq: m.put, Came: now}
	return h, api.OK
}

func (m *model) free(h uint64) (api.Held, bool) {
	x, ok := m.held[h]
	if ok {
		delete(m.held, h)
		m.places.Give(h)
	}
	return x, ok
}

// same holds all that can be asked of the store against the model, of every handle that was ever handed out.
func (m *model) same(t *testing.T, s *Store, ever []uint64) {
	t.Helper()
	bytes := 0
	for _, x := range m.held {
		bytes += x.Packet.Len
	}
	counts(t, s, len(m.held), bytes, m.put+1)
	for _, h := range ever {
		want, wantOK := m.held[h]
		if x, ok := s.Get(h); x != want || ok != wantOK {
			t.Fatalf("Get(%d): %v, %v, not %v, %v", h, x, ok, want, wantOK)
		}
	}
}

// P10.1 to P10.4: long runs of packets that are put, fit or not, and freed, by handles that hold, that held once, and of none, held against the model; the numbers rise, and each is freed once.
func TestModel(t *testing.T) {
	state := uint64(0x9e3779b97f4a7c15)
	draw := func(n int) int {
		state = state*6364136223846793005 + 1442695040888963407
		return int(state >> 33 % uint64(n))
	}
	packet := func() api.Packet {
		p := api.Packet{Sock: uint64(draw(3)), Cookie: uint64(draw(2)), Len: draw(65540), Prio: uint8(draw(17)), At: uint64(draw(100))}
		if draw(4) == 0 {
			p.Len = []int{-1, 0, 1, 65536, 65537}[draw(5)]
		}
		return p
	}
	for _, room := range []int{1, 2, 3, 5, 8, 13} {
		s, m := fresh(t, room), newModel(t, room)
		ever := []uint64{0}
		var freed []uint64
		for step := range 600 {
			if draw(20) < 9+3*(step/100%2) { // now mostly filling, now mostly emptying
				p, now := packet(), uint64(draw(1000))
				h, e := s.Put(p, now)
				wantH, wantE := m.putIn(p, now)
				if h != wantH || e != wantE {
					t.Fatalf("room %d, step %d: Put(%v, %d): %d, %d, not %d, %d", room, step, p, now, h, e, wantH, wantE)
				}
				if e == api.OK {
					ever = append(ever, h)
				}
			} else {
				h := ever[max(0, len(ever)-1-draw(2*room+4))] // mostly one of late, which may well hold
				x, ok := s.Free(h)
				want, wantOK := m.free(h)
				if x != want || ok != wantOK {
					t.Fatalf("room %d, step %d: Free(%d): %v, %v, not %v, %v", room, step, h, x, ok, want, wantOK)
				}
				if ok {
					freed = append(freed, x.Seq)
				}
			}
			m.same(t, s, ever)
		}
		slices.Sort(freed)
		if len(freed) < 30 || len(slices.Compact(freed)) != len(freed) || len(freed)+s.Count() != len(ever)-1 {
			t.Errorf("room %d: %d were put, %d freed, %d are held", room, len(ever)-1, len(freed), s.Count())
		}
	}
}
