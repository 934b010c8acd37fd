package bucket

import (
	"math"
	"slices"
	"testing"

	"sandglass/api"
	"sandglass/mix"
	"sandglass/tree"
)

const never = uint64(api.Never)

func fresh(t *testing.T, bits, room int) *Buckets {
	t.Helper()
	b, e := New(bits, room)
	if b == nil || e != api.OK {
		t.Fatalf("New(%d, %d): %v, %d", bits, room, b, e)
	}
	return b
}

// put puts a socket that is not there while there is room.
func put(t *testing.T, b *Buckets, sock uint64, v int) {
	t.Helper()
	n := b.Len()
	if e := b.Put(sock, v); e != api.OK || b.Len() != n+1 {
		t.Fatalf("Put(%d, %d): %d, and %d sockets, not %d", sock, v, e, b.Len(), n+1)
	}
}

// refused: a socket is refused, and neither its number nor how many there are is changed by that.
func refused(t *testing.T, b *Buckets, sock uint64, want api.Errno) {
	t.Helper()
	n := b.Len()
	v, ok := b.Get(sock)
	if e := b.Put(sock, 7777); e != want {
		t.Fatalf("Put(%d, 7777): %d, not %d", sock, e, want)
	}
	if v2, ok2 := b.Get(sock); v2 != v || ok2 != ok || b.Len() != n {
		t.Fatalf("%d is refused, and then has %d, %v, not %d, %v; %d sockets, not %d", sock, v2, ok2, v, ok, b.Len(), n)
	}
}

// drop takes a socket away that is there, with this number.
func drop(t *testing.T, b *Buckets, sock uint64, want int) {
	t.Helper()
	n := b.Len()
	if v, ok := b.Drop(sock); v != want || !ok || b.Len() != n-1 {
		t.Fatalf("Drop(%d): %d, %v, not %d; %d sockets are left of %d", sock, v, ok, want, b.Len(), n)
	}
}

// missing: a socket is not there, to be told or to be taken away, as often as one asks.
func missing(t *testing.T, b *Buckets, sock uint64) {
	t.Helper()
	n := b.Len()
	for range 2 {
		if v, ok := b.Get(sock); v != 0 || ok {
			t.Fatalf("Get(%d): %d, %v, though it is not there", sock, v, ok)
		}
		if v, ok := b.Drop(sock); v != 0 || ok || b.Len() != n {
			t.Fatalf("Drop(%d): %d, %v, though it is not there; %d sockets, not %d", sock, v, ok, b.Len(), n)
		}
	}
}

// in holds what stands in one bucket against these entries.
func in(t *testing.T, b *Buckets, bucket int, want ...api.Entry) {
	t.Helper()
	if got := b.In(bucket); !slices.Equal(got, want) {
		t.Fatalf("In(%d) of %d bits: %v, not %v", bucket, b.Bits(), got, want)
	}
}

func entry(sock uint64, v int) api.Entry {
	return api.Entry{Key: api.Key{At: sock}, V: v}
}

// holds: these sockets are there, and no others, whichever call one asks, each in its bucket and in no other one.
func holds(t *testing.T, b *Buckets, want map[uint64]int) {
	t.Helper()
	if b.Len() != len(want) {
		t.Fatalf("Len(): %d, not %d", b.Len(), len(want))
	}
	lists := make([][]api.Entry, 1<<b.Bits())
	for sock, v := range want {
		if got, ok := b.Get(sock); got != v || !ok {
			t.Fatalf("Get(%d): %d, %v, not %d", sock, got, ok, v)
		}
		at := mix.Bucket(sock, b.Bits())
		if b.Of(sock) != at {
			t.Fatalf("Of(%d): %d, not %d", sock, b.Of(sock), at)
		}
		lists[at] = append(lists[at], entry(sock, v))
	}
	for at, list := range lists {
		slices.SortFunc(list, func(a, b api.Entry) int {
			if a.Key.At < b.Key.At {
				return -1
			}
			return 1
		})
		in(t, b, at, list...)
	}
	in(t, b, -1)
	in(t, b, len(lists))
}

// one is a socket of a bucket: the number of that name of those that are mixed into it, in the order of what they are mixed to.
func one(bits, bucket int, name uint64) uint64 {
	return mix.Back(uint64(bucket)<<(64-bits) + name)
}

// The chapter's examples.
func TestExamples(t *testing.T) {
	b := fresh(t, 0, 2)
	put(t, b, 9, 1)
	put(t, b, 4, 2)
	in(t, b, 0, entry(4, 2), entry(9, 1))
	refused(t, b, 9, api.ErrHave)
	refused(t, b, 5, api.ErrFull)
	drop(t, b, 4, 2)
	if b.Of(7) != 0 {
		t.Error(b.Of(7))
	}
	in(t, b, 1)
	holds(t, b, map[uint64]int{9: 1})
}

// P13.1: bits and rooms that may not be, one of both, or both.
func TestNewRefused(t *testing.T) {
	rightBits, rightRooms := []int{0, 1, 5, 9, 10}, []int{1, 2, 100, 4095, 4096}
	wrongBits := []int{-1, -2, -10, math.MinInt, 11, 12, 16, 17, 63, 64, 65, 1 << 32, 1<<32 + 1, math.MaxInt}
	wrongRooms := []int{0, -1, -2, -4096, math.MinInt, 4097, 4098, api.MaxNodes, api.MaxNodes + 1, 1<<32 + 1, math.MaxInt}
	wrong := func(bits, room int) {
		if b, e := New(bits, room); b != nil || e != api.ErrArg {
			t.Errorf("New(%d, %d): %v, %d", bits, room, b, e)
		}
	}
	for _, bits := range wrongBits {
		for _, room := range append(slices.Clone(wrongRooms), rightRooms...) {
			wrong(bits, room)
		}
	}
	for _, room := range wrongRooms {
		for _, bits := range rightBits {
			wrong(bits, room)
		}
	}
}

// P13.1: new buckets, of all bits that may be and at the bounds of room, are empty, whatever is asked.
func TestNew(t *testing.T) {
	for bits := range api.MaxTable + 1 {
		for _, room := range []int{1, 2, api.MaxFlows - 1, api.MaxFlows} {
			b := fresh(t, bits, room)
			if b.Bits() != bits {
				t.Fatalf("Bits(): %d, not %d", b.Bits(), bits)
			}
			holds(t, b, nil)
			for _, sock := range []uint64{0, 1, 7, 1 << 32, never - 1, never} {
				missing(t, b, sock)
			}
		}
	}
}

// P13.1, P13.2: there is room for as many sockets as New was told, however they are spread, and for no more; of a socket that is there, that is told first.
func TestUntilFull(t *testing.T) {
	for _, bits := range []int{0, 1, 3, api.MaxTable} {
		for _, room := range []int{1, 2, 3, 100, api.MaxFlows - 1, api.MaxFlows} {
			for name, sock := range spreads(bits) {
				b, want := fresh(t, bits, room), map[uint64]int{}
				for i := range room {
					put(t, b, sock(i), i)
					want[sock(i)] = i
					refused(t, b, sock(i), api.ErrHave)
					refused(t, b, sock(0), api.ErrHave)
				}
				for i := range room { // there is no room, but they are there
					refused(t, b, sock(i), api.ErrHave)
				}
				for i := range 5 {
					refused(t, b, sock(room+i), api.ErrFull)
					missing(t, b, sock(room+i))
				}
				holds(t, b, want)
				if b.Bits() != bits {
					t.Fatal(name, b.Bits())
				}
			}
		}
	}
}

// spreads is ways in which sockets are spread over buckets of so many bits: as they fall, all in the first one, all in the last one, and one behind the other.
func spreads(bits int) map[string]func(i int) uint64 {
	return map[string]func(i int) uint64{
		"rising":  func(i int) uint64 { return uint64(i) },
		"falling": func(i int) uint64 { return never - uint64(i) },
		"first":   func(i int) uint64 { return one(bits, 0, uint64(i)) },
		"last":    func(i int) uint64 { return one(bits, 1<<bits-1, uint64(i)) },
		"round":   func(i int) uint64 { return one(bits, i%(1<<bits), uint64(i)) },
	}
}

// P13.2: room that is given back is room, in whichever bucket, and no more than was given.
func TestRoomAgain(t *testing.T) {
	const bits = 2
	for _, room := range []int{1, 2, 5} {
		b := fresh(t, bits, room)
		var there []uint64
		for i := range 500 {
			sock := one(bits, i*i%4, uint64(i))
			if len(there) == room {
				refused(t, b, sock, api.ErrFull)
				missing(t, b, sock)
				drop(t, b, there[0], int(there[0]%1000))
				there = there[1:]
			}
			put(t, b, sock, int(sock%1000))
			there = append(there, sock)
			if b.Len() != len(there) {
				t.Fatal(b.Len(), len(there))
			}
		}
		want := map[uint64]int{}
		for _, sock := range there {
			want[sock] = int(sock % 1000)
		}
		holds(t, b, want)
	}
}

// P13.2: a socket that was dropped is there no more, dropped again it is not, and put again it has its new number.
func TestDropped(t *testing.T) {
	for _, bits := range []int{0, 4, 10} {
		b := fresh(t, bits, 3)
		put(t, b, 1, 10)
		put(t, b, 2, 20)
		put(t, b, 3, 30)
		drop(t, b, 2, 20)
		missing(t, b, 2)
		holds(t, b, map[uint64]int{1: 10, 3: 30})
		put(t, b, 2, 21)
		refused(t, b, 2, api.ErrHave)
		refused(t, b, 4, api.ErrFull)
		holds(t, b, map[uint64]int{1: 10, 2: 21, 3: 30})
		for sock, v := range map[uint64]int{1: 10, 2: 21, 3: 30} {
			drop(t, b, sock, v)
			missing(t, b, sock)
		}
		holds(t, b, nil)
		put(t, b, 2, 22)
		holds(t, b, map[uint64]int{2: 22})
	}
}

// P13.2: numbers may be any, and alike; asking for a socket beside one that is there finds none.
func TestAnyNumber(t *testing.T) {
	numbers := []int{0, 0, 1, -1, -1, 4095, 1 << 31, -1 << 31, 1 << 32, math.MaxInt, math.MinInt}
	for _, bits := range []int{0, 2, 10} {
		b, want := fresh(t, bits, 100), map[uint64]int{}
		for i, v := range numbers {
			sock := uint64(i) * 10
			put(t, b, sock, v)
			want[sock] = v
			missing(t, b, sock+1)
			missing(t, b, sock-1)
		}
		holds(t, b, want)
		for sock, v := range want {
			drop(t, b, sock, v)
		}
		holds(t, b, nil)
	}
}

// P13.2, P13.3: sockets at the least and the greatest number, and wherever bits turn.
func TestEdges(t *testing.T) {
	edges := []uint64{0, 1, 1<<31 - 1, 1 << 31, 1<<32 - 1, 1 << 32, 1<<63 - 1, 1 << 63, 1<<63 + 1, never - 1, never}
	for bits := range api.MaxTable + 1 {
		b, want := fresh(t, bits, len(edges)), map[uint64]int{}
		for i, sock := range edges {
			missing(t, b, sock)
			put(t, b, sock, i-3)
			want[sock] = i - 3
		}
		refused(t, b, 2, api.ErrFull)
		for _, sock := range edges {
			refused(t, b, sock, api.ErrHave)
		}
		holds(t, b, want)
		for _, sock := range edges {
			drop(t, b, sock, want[sock])
			delete(want, sock)
			missing(t, b, sock)
			holds(t, b, want)
		}
	}
	b := fresh(t, 0, 2)
	put(t, b, never, 5)
	put(t, b, 0, 6)
	in(t, b, 0, entry(0, 6), entry(never, 5))
}

// P13.3: the bucket of a socket, by numbers that were mixed by other means.
func TestOfRows(t *testing.T) {
	rows := []struct {
		sock            uint64
		one, three, ten int
	}{
		{0, 0, 0, 0},
		{1, 1, 6, 866},
		{2, 0, 2, 340},
		{3, 0, 0, 31},
		{5, 1, 7, 902},
		{7, 0, 3, 497},
		{12345, 1, 4, 573},
		{1 << 63, 1, 5, 659},
		{never, 1, 5, 711},
	}
	for _, r := range rows {
		for bits, want := range map[int]int{0: 0, 1: r.one, 3: r.three, 10: r.ten} {
			b := fresh(t, bits, 1)
			for range 2 { // not there, and there
				if got := b.Of(r.sock); got != want {
					t.Errorf("Of(%d) of %d bits: %d, not %d", r.sock, bits, got, want)
				}
				b.Put(r.sock, 1)
			}
			in(t, b, want, entry(r.sock, 1))
		}
	}
}

// P13.3, P13.4: each bucket there is, of all bits: the first and the last number that is mixed into it is of it, and stands in it alone.
func TestOfEach(t *testing.T) {
	for bits := range api.MaxTable + 1 {
		b, want := fresh(t, bits, api.MaxFlows), map[uint64]int{}
		last := never >> bits
		for k := range 1 << bits {
			for v, sock := range []uint64{one(bits, k, 0), one(bits, k, 1), one(bits, k, last)} {
				if got := b.Of(sock); got != k {
					t.Fatalf("Of(%d) of %d bits: %d, not %d", sock, bits, got, k)
				}
				put(t, b, sock, v)
				want[sock] = v
			}
			if n := len(b.In(k)); n != 3 {
				t.Fatalf("In(%d) of %d bits: %d sockets", k, bits, n)
			}
		}
		holds(t, b, want)
	}
}

// P13.3: no such bucket, however many bits there are, and whether there are sockets or not.
func TestInNone(t *testing.T) {
	for bits := range api.MaxTable + 1 {
		b := fresh(t, bits, 2)
		for range 2 {
			n := 1 << bits
			for _, k := range []int{-1, -2, -n, -n - 1, math.MinInt, n, n + 1, 2 * n, api.MaxFlows, 1 << 32, math.MaxInt} {
				in(t, b, k)
			}
			b.Put(one(bits, n-1, 5), 1)
			b.Put(one(bits, 0, 6), 2)
		}
		if b.Len() != 2 {
			t.Fatal(b.Len())
		}
	}
}

// P13.3: a bucket in which nothing ever was, one that has been emptied, and one that gets a socket again behind that.
func TestInEmptied(t *testing.T) {
	const bits = 3
	b := fresh(t, bits, 10)
	for round := range 3 {
		in(t, b, 5)
		put(t, b, one(bits, 5, 1), 11+round)
		put(t, b, one(bits, 5, 2), 12+round)
		put(t, b, one(bits, 6, 1), 13+round)
		if len(b.In(5)) != 2 || len(b.In(6)) != 1 || len(b.In(4)) != 0 {
			t.Fatal(b.In(4), b.In(5), b.In(6))
		}
		drop(t, b, one(bits, 5, 2), 12+round)
		in(t, b, 5, entry(one(bits, 5, 1), 11+round))
		drop(t, b, one(bits, 5, 1), 11+round)
		in(t, b, 5)
		missing(t, b, one(bits, 5, 1))
		if b.Of(one(bits, 5, 1)) != 5 {
			t.Fatal(b.Of(one(bits, 5, 1)))
		}
		in(t, b, 6, entry(one(bits, 6, 1), 13+round))
		drop(t, b, one(bits, 6, 1), 13+round)
		holds(t, b, nil)
	}
}

// P13.3: a bucket's sockets rise, whichever way they come.
func TestInRises(t *testing.T) {
	const bits, many = 4, 300
	orders := map[string]func(i int) int{
		"rising":  func(i int) int { return i },
		"falling": func(i int) int { return many - 1 - i },
		"strewn":  func(i int) int { return i * 7 % many },
	}
	for name, order := range orders {
		b := fresh(t, bits, many)
		for i := range many {
			put(t, b, uint64(order(i))<<40, order(i))
		}
		all := 0
		for k := range 1 << bits {
			list := b.In(k)
			all += len(list)
			for i, e := range list {
				if e.Key != (api.Key{At: uint64(e.V) << 40}) || i > 0 && e.Key.At <= list[i-1].Key.At || b.Of(e.Key.At) != k {
					t.Fatalf("%s: In(%d): %v", name, k, list)
				}
			}
		}
		if all != many || b.Len() != many {
			t.Fatal(name, all, b.Len())
		}
	}
}

// P13.4: the same calls, with any number of bits, are answered alike, and leave the same sockets with the same numbers.
func TestAnyBits(t *testing.T) {
	for _, room := range []int{1, 20, 64} {
		var all []*Buckets
		for bits := range api.MaxTable + 1 {
			all = append(all, fresh(t, bits, room))
		}
		m := model{room: room, numbers: map[uint64]int{}}
		draw := drawer(uint64(room))
		for step := range 3000 {
			sock := uint64(draw(90))
			puts := draw(10) < 7-step/500%2*4
			e := m.mayPut(sock)
			was, there := m.numbers[sock]
			for _, b := range all {
				if puts {
					if got := b.Put(sock, step); got != e {
						t.Fatalf("%d bits, step %d: Put(%d): %d, not %d", b.Bits(), step, sock, got, e)
					}
				} else if v, ok := b.Drop(sock); v != was || ok != there {
					t.Fatalf("%d bits, step %d: Drop(%d): %d, %v, not %d, %v", b.Bits(), step, sock, v, ok, was, there)
				}
			}
			m.done(puts, sock, step)
		}
		for _, b := range all {
			for sock := range uint64(91) {
				want, found := m.numbers[sock]
				if v, ok := b.Get(sock); v != want || ok != found {
					t.Fatalf("%d bits: Get(%d): %d, %v, not %d, %v", b.Bits(), sock, v, ok, want, found)
				}
			}
			holds(t, b, m.numbers)
		}
	}
}

// R3: what In hands out is nobody else's: changed, it changes no later answer, nor an earlier one; and later calls do not change it.
func TestInIsNew(t *testing.T) {
	for _, bits := range []int{0, 2} {
		b := fresh(t, bits, 9)
		socks := []uint64{one(bits, 0, 3), one(bits, 0, 1), one(bits, 0, 2)}
		want := map[uint64]int{}
		for v, sock := range socks {
			put(t, b, sock, v)
			want[sock] = v
		}
		told, other, was := b.In(0), b.In(0), b.In(0)
		whole := told[:cap(told)]
		for i := range whole {
			whole[i] = entry(77, -7)
		}
		_ = append(told[:1], entry(88, 8), entry(89, 9))
		if !slices.Equal(other, was) {
			t.Fatal("two answers share memory:", other, was)
		}
		holds(t, b, want)
		drop(t, b, socks[0], 0)
		put(t, b, socks[0], 100)
		put(t, b, one(bits, 0, 4), 101)
		if !slices.Equal(other, was) {
			t.Fatal("an answer changed behind what was done later:", other, was)
		}
	}
}

// P13.2, P13.3: asking changes nothing.
func TestAsking(t *testing.T) {
	b, want := fresh(t, 3, 20), map[uint64]int{}
	for i := range 20 {
		put(t, b, uint64(i*3), i)
		want[uint64(i*3)] = i
	}
	for range 2 {
		for sock := range uint64(70) {
			b.Get(sock)
			b.Of(sock)
			b.In(int(sock) - 5)
		}
		holds(t, b, want)
		if b.Bits() != 3 {
			t.Fatal(b.Bits())
		}
	}
}

// R5: no buckets, and such as New did not answer, at every call.
func TestNoBuckets(t *testing.T) {
	made := fresh(t, 0, 5)
	put(t, made, 9, 90)
	copied := *made
	late, _ := tree.New(3)
	late.Put(api.Key{At: 9}, 90)
	for i, b := range []*Buckets{nil, {}, new(Buckets), {bits: 3, room: 3, count: 1}, {room: 3, count: 1, trees: []*tree.Tree{late}}, &copied} {
		for range 2 {
			for _, sock := range []uint64{0, 9, never} {
				refused(t, b, sock, api.ErrNil)
				missing(t, b, sock)
				if got := b.Of(sock); got != -1 {
					t.Fatalf("no buckets (%d): Of(%d): %d", i, sock, got)
				}
			}
			for _, k := range []int{-1, 0, 1, 8} {
				in(t, b, k)
			}
			if b.Len() != 0 || b.Bits() != 0 {
				t.Fatal(i, b.Len(), b.Bits())
			}
		}
	}
	if late.Len() != 1 {
		t.Error("buckets that New did not answer have lost a socket, or got one")
	}
	holds(t, made, map[uint64]int{9: 90})
	put(t, made, 0, 1)
}

// R4: buckets share nothing.
func TestApart(t *testing.T) {
	a, b := fresh(t, 1, 2), fresh(t, 1, 2)
	put(t, a, 1, 10)
	put(t, a, 2, 20)
	holds(t, b, nil)
	put(t, b, 1, 11)
	drop(t, a, 2, 20)
	put(t, b, 3, 13)
	holds(t, a, map[uint64]int{1: 10})
	holds(t, b, map[uint64]int{1: 11, 3: 13})
}

// What is kept: a bucket has a tree only while there are sockets in it.
func TestTreesForgotten(t *testing.T) {
	const bits = 4
	b := fresh(t, bits, 100)
	trees := func() int {
		return len(slices.DeleteFunc(slices.Clone(b.trees), func(x *tree.Tree) bool { return x == nil }))
	}
	for i := range 100 {
		b.Get(uint64(i))
		b.Drop(uint64(i))
		b.In(i - 5)
	}
	if trees() != 0 {
		t.Fatal("a tree without a socket:", trees())
	}
	for i := range 10 {
		put(t, b, one(bits, 7, uint64(i)), i)
		put(t, b, one(bits, 9, uint64(i)), i)
	}
	if trees() != 2 {
		t.Fatal(trees())
	}
	for i := range 10 {
		if trees() != 2 {
			t.Fatal(i, trees())
		}
		drop(t, b, one(bits, 7, uint64(i)), i)
	}
	if trees() != 1 || b.Len() != 10 {
		t.Fatal(trees(), b.Len())
	}
}

// drawer draws numbers below others, by a rule.
func drawer(state uint64) func(n int) int {
	return func(n int) int {
		state = state*6364136223846793005 + 1442695040888963407
		return int(state >> 33 % uint64(n))
	}
}

// model is buckets by the chapter's words: numbers by sockets, and for how many there is room.
type model struct {
	room    int
	numbers map[uint64]int
}

// mayPut is what Put must answer of a socket.
func (m *model) mayPut(sock uint64) api.Errno {
	if _, ok := m.numbers[sock]; ok {
		return api.ErrHave
	}
	if len(m.numbers) == m.room {
		return api.ErrFull
	}
	return api.OK
}

// done does to the model what a put, or else a drop, does.
func (m *model) done(puts bool, sock uint64, v int) {
	if !puts {
		delete(m.numbers, sock)
	} else if m.mayPut(sock) == api.OK {
		m.numbers[sock] = v
	}
}

// P13.1 to P13.4: long runs of puts and drops, of sockets that are there and that are not, all answers held against the model behind every call.
func TestModel(t *testing.T) {
	for _, c := range []struct{ bits, room, socks int }{{0, 1, 2}, {0, 8, 12}, {1, 2, 5}, {2, 5, 9}, {3, 30, 40}, {4, 100, 120}, {6, 64, 300}, {10, 20, 30}} {
		b, m := fresh(t, c.bits, c.room), model{room: c.room, numbers: map[uint64]int{}}
		draw := drawer(uint64(c.bits*1000 + c.room))
		for step := range 1500 {
			sock := uint64(draw(c.socks)) * 0x123456789abcdef
			puts := draw(100) < 70-step/(2*c.room+10)%2*40 // now mostly filling, now mostly emptying
			if puts {
				if e, want := b.Put(sock, step), m.mayPut(sock); e != want {
					t.Fatalf("%v, step %d: Put(%d, %d): %d, not %d", c, step, sock, step, e, want)
				}
			} else {
				want, found := m.numbers[sock]
				if v, ok := b.Drop(sock); v != want || ok != found {
					t.Fatalf("%v, step %d: Drop(%d): %d, %v, not %d, %v", c, step, sock, v, ok, want, found)
				}
			}
			m.done(puts, sock, step)
			holds(t, b, m.numbers)
			other := uint64(draw(c.socks)) * 0x123456789abcdef
			want, found := m.numbers[other]
			if v, ok := b.Get(other); v != want || ok != found {
				t.Fatalf("%v, step %d: Get(%d): %d, %v, not %d, %v", c, step, other, v, ok, want, found)
			}
		}
	}
}
