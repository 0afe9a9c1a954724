package ages_test

import (
	"math"
	"slices"
	"testing"

	"customshouse/ages"
	"customshouse/api"
)

func of(size int, order ...api.Stay) api.Ages { return api.Ages{Size: size, Order: order} }

func at(room, at int) api.Stay { return api.Stay{Room: room, At: at} }

func copyOf(a api.Ages) api.Ages {
	out := make([]api.Stay, len(a.Order))
	copy(out, a.Order)
	return api.Ages{Size: a.Size, Order: out}
}

func same(a, b api.Ages) bool { return a.Size == b.Size && slices.Equal(a.Order, b.Order) }

func random(n *uint64, below int) int {
	*n = *n*6364136223846793005 + 1442695040888963407
	return int((*n >> 33) % uint64(below))
}

// beyond is what a size may not be; some of it would be in bounds, if its high bits were lost.
func beyond() []int {
	return []int{
		0, -1, -2, -63, -64, -65, 65, 66, 127, 128, 129, 256, 257, 300, 65537, -65535, -255,
		1 << 32, 1<<32 + 3, -1 << 32, -1<<32 + 3, math.MaxInt, math.MaxInt - 1, math.MinInt, math.MinInt + 3,
	}
}

// far are numbers that no room has; some of them would be rooms, if their high bits were lost.
func far() []int {
	return []int{
		-1, -2, -64, 64, 65, 128, 256, 257, -255, 65537, 1 << 32, 1<<32 + 1, -1<<32 + 1, math.MaxInt, math.MinInt,
		math.MinInt + 1, math.MaxInt - 1,
	}
}

// checkOf is Check by the words of P11.1.
func checkOf(a api.Ages) api.Errno {
	if a.Size < 1 || a.Size > 64 {
		return api.ErrArg
	}
	times, last := map[int]int{}, math.MinInt
	for _, s := range a.Order {
		times[s.Room]++
		if s.Room < 0 || s.Room > a.Size-1 || times[s.Room] == 2 || s.At < last {
			return api.ErrForm
		}
		last = s.At
	}
	return api.OK
}

func isTaken(a api.Ages, room int) bool {
	for _, s := range a.Order {
		if s.Room == room {
			return true
		}
	}
	return false
}

// isAhead is whether now is less than the last At, if there is one.
func isAhead(a api.Ages, now int) bool {
	return len(a.Order) > 0 && now < a.Order[len(a.Order)-1].At
}

// takeOf is Take by the words of P11.2.
func takeOf(a api.Ages, now int) (api.Ages, int, api.Errno) {
	if e := checkOf(a); e != api.OK {
		return api.Ages{}, 0, e
	}
	if isAhead(a, now) {
		return api.Ages{}, 0, api.ErrArg
	}
	for room := range a.Size {
		if !isTaken(a, room) {
			out := copyOf(a)
			out.Order = append(out.Order, at(room, now))
			return out, room, api.OK
		}
	}
	return api.Ages{}, 0, api.ErrFull
}

func without(a api.Ages, room int) api.Ages {
	out := of(a.Size)
	for _, s := range a.Order {
		if s.Room != room {
			out.Order = append(out.Order, s)
		}
	}
	return out
}

// touchOf is Touch by the words of P11.2.
func touchOf(a api.Ages, room, now int) (api.Ages, api.Errno) {
	if e := checkOf(a); e != api.OK {
		return api.Ages{}, e
	}
	if isAhead(a, now) {
		return api.Ages{}, api.ErrArg
	}
	if !isTaken(a, room) {
		return api.Ages{}, api.ErrNone
	}
	out := without(a, room)
	out.Order = append(out.Order, at(room, now))
	return out, api.OK
}

// leaveOf is Leave by the words of P11.2.
func leaveOf(a api.Ages, room int) (api.Ages, api.Errno) {
	if e := checkOf(a); e != api.OK {
		return api.Ages{}, e
	}
	if !isTaken(a, room) {
		return api.Ages{}, api.ErrNone
	}
	return without(a, room), api.OK
}

// expireOf is Expire by the words of P11.3.
func expireOf(a api.Ages, before int) (api.Ages, []int, api.Errno) {
	if e := checkOf(a); e != api.OK {
		return api.Ages{}, nil, e
	}
	out, gone := a, []int(nil)
	for _, s := range a.Order {
		if s.At < before {
			out = without(out, s.Room)
			gone = append(gone, s.Room)
		}
	}
	return copyOf(out), gone, api.OK
}

// asks holds all that rooms answer against the words of the chapter.
func asks(t *testing.T, a api.Ages, room, now int) {
	t.Helper()
	if got, want := ages.Check(a), checkOf(a); got != want {
		t.Fatalf("Check(%+v) = %d, want %d", a, got, want)
	}
	b, told, e := ages.Take(a, now)
	if want, free, wrong := takeOf(a, now); !same(b, want) || told != free || e != wrong {
		t.Fatalf("Take(%+v, %d) = %+v, %d, error %d; want %+v, %d, error %d", a, now, b, told, e, want, free, wrong)
	}
	b, e = ages.Touch(a, room, now)
	if want, wrong := touchOf(a, room, now); !same(b, want) || e != wrong {
		t.Fatalf("Touch(%+v, %d, %d) = %+v, error %d; want %+v, error %d", a, room, now, b, e, want, wrong)
	}
	b, e = ages.Leave(a, room)
	if want, wrong := leaveOf(a, room); !same(b, want) || e != wrong {
		t.Fatalf("Leave(%+v, %d) = %+v, error %d; want %+v, error %d", a, room, b, e, want, wrong)
	}
	b, gone, e := ages.Expire(a, now)
	if want, list, wrong := expireOf(a, now); !same(b, want) || !slices.Equal(gone, list) || e != wrong {
		t.Fatalf("Expire(%+v, %d) = %+v, %v, error %d; want %+v, %v, error %d", a, now, b, gone, e, want, list, wrong)
	}
}

func takes(t *testing.T, a api.Ages, now, room int, want api.Ages) api.Ages {
	t.Helper()
	b, told, e := ages.Take(a, now)
	if !same(b, want) || told != room || e != api.OK {
		t.Errorf("Take(%+v, %d) = %+v, %d, error %d; want %+v, %d", a, now, b, told, e, want, room)
	}
	return b
}

func touches(t *testing.T, a api.Ages, room, now int, want api.Ages) api.Ages {
	t.Helper()
	b, e := ages.Touch(a, room, now)
	if !same(b, want) || e != api.OK {
		t.Errorf("Touch(%+v, %d, %d) = %+v, error %d; want %+v", a, room, now, b, e, want)
	}
	return b
}

func leaves(t *testing.T, a api.Ages, room int, want api.Ages) api.Ages {
	t.Helper()
	b, e := ages.Leave(a, room)
	if !same(b, want) || e != api.OK {
		t.Errorf("Leave(%+v, %d) = %+v, error %d; want %+v", a, room, b, e, want)
	}
	return b
}

func expires(t *testing.T, a api.Ages, before int, want api.Ages, gone ...int) api.Ages {
	t.Helper()
	b, told, e := ages.Expire(a, before)
	if !same(b, want) || !slices.Equal(told, gone) || e != api.OK {
		t.Errorf("Expire(%+v, %d) = %+v, %v, error %d; want %+v, %v", a, before, b, told, e, want, gone)
	}
	return b
}

func noTake(t *testing.T, a api.Ages, now int, want api.Errno) {
	t.Helper()
	if b, room, e := ages.Take(a, now); !same(b, api.Ages{}) || room != 0 || e != want {
		t.Errorf("Take(%+v, %d) = %+v, %d, error %d; want error %d", a, now, b, room, e, want)
	}
}

func noTouch(t *testing.T, a api.Ages, room, now int, want api.Errno) {
	t.Helper()
	if b, e := ages.Touch(a, room, now); !same(b, api.Ages{}) || e != want {
		t.Errorf("Touch(%+v, %d, %d) = %+v, error %d; want error %d", a, room, now, b, e, want)
	}
}

func noLeave(t *testing.T, a api.Ages, room int, want api.Errno) {
	t.Helper()
	if b, e := ages.Leave(a, room); !same(b, api.Ages{}) || e != want {
		t.Errorf("Leave(%+v, %d) = %+v, error %d; want error %d", a, room, b, e, want)
	}
}

// refuses says that all calls on rooms tell this error and nothing beside it, whatever else they are given.
func refuses(t *testing.T, a api.Ages, want api.Errno) {
	t.Helper()
	if e := ages.Check(a); e != want {
		t.Errorf("Check(%+v) = %d, want %d", a, e, want)
	}
	for _, now := range []int{0, 5, -1, math.MinInt, math.MaxInt} {
		noTake(t, a, now, want)
		for _, room := range []int{0, 1, 63, -1, 64} {
			noTouch(t, a, room, now, want)
			noLeave(t, a, room, want)
		}
		if b, gone, e := ages.Expire(a, now); !same(b, api.Ages{}) || len(gone) != 0 || e != want {
			t.Errorf("Expire(%+v, %d) = %+v, %v, error %d; want error %d", a, now, b, gone, e, want)
		}
	}
}

// filled has all rooms taken, each at its own number.
func filled(size int) api.Ages {
	a := of(size)
	for room := range size {
		a.Order = append(a.Order, at(room, room))
	}
	return a
}

func firstRooms(many int) []int {
	list := make([]int, many)
	for i := range list {
		list[i] = i
	}
	return list
}

// P11.1.
func TestNew(t *testing.T) {
	for size := 1; size <= 64; size++ {
		a, e := ages.New(size)
		if !same(a, of(size)) || e != api.OK || ages.Check(a) != api.OK {
			t.Errorf("New(%d) = %+v, error %d", size, a, e)
		}
	}
	for _, size := range beyond() {
		if a, e := ages.New(size); !same(a, api.Ages{}) || e != api.ErrArg {
			t.Errorf("New(%d) = %+v, error %d", size, a, e)
		}
	}
}

// P11.1: ErrArg is told ahead of ErrForm.
func TestCheckOfWrongSizes(t *testing.T) {
	for _, size := range beyond() {
		refuses(t, of(size), api.ErrArg)
		refuses(t, of(size, at(0, 1)), api.ErrArg)
		refuses(t, of(size, at(-1, 1)), api.ErrArg)
		refuses(t, of(size, at(64, 1)), api.ErrArg)
		refuses(t, of(size, at(0, 1), at(0, 1)), api.ErrArg)
		refuses(t, of(size, at(0, 1), at(1, 0)), api.ErrArg)
	}
}

// P11.1.
func TestCheckOfRightRooms(t *testing.T) {
	for _, a := range []api.Ages{
		of(1),
		of(64),
		of(1, at(0, 0)),
		of(1, at(0, math.MinInt)),
		of(1, at(0, math.MaxInt)),
		of(2, at(1, 0)),
		of(2, at(1, 0), at(0, 0)),
		of(2, at(1, -5), at(0, -5)),
		of(2, at(1, -5), at(0, -4)),
		of(3, at(2, math.MinInt), at(0, 0), at(1, math.MaxInt)),
		of(3, at(2, math.MaxInt), at(0, math.MaxInt)),
		of(64, at(63, 1), at(0, 1), at(31, 1<<32), at(32, 1<<32), at(1, 1<<32+1)),
		filled(1), filled(2), filled(63), filled(64),
	} {
		if e := ages.Check(a); e != api.OK {
			t.Errorf("Check(%+v) = %d", a, e)
		}
		asks(t, a, 0, math.MaxInt)
	}
}

// P11.1: each thing that makes rooms wrong, alone.
func TestCheckOfWrongRooms(t *testing.T) {
	for _, a := range []api.Ages{
		of(1, at(1, 0)),
		of(2, at(2, 0)),
		of(2, at(0, 0), at(2, 0)),
		of(63, at(63, 0)),
		of(64, at(64, 0)),
		of(64, at(0, 0), at(64, 0), at(1, 0)),
		of(64, at(-1, 0)),
		of(64, at(0, 0), at(-64, 0)),

		of(1, at(0, 0), at(0, 0)),
		of(2, at(1, 0), at(1, 0)),
		of(2, at(1, 0), at(1, 1)),
		of(3, at(1, 0), at(0, 1), at(1, 2)),
		of(3, at(0, 0), at(1, 1), at(2, 2), at(0, 3)),
		of(64, at(63, 0), at(0, 0), at(63, 0)),

		of(2, at(0, 1), at(1, 0)),
		of(2, at(0, 0), at(1, -1)),
		of(2, at(0, math.MaxInt), at(1, math.MinInt)),
		of(2, at(0, math.MinInt+1), at(1, math.MinInt)),
		of(2, at(0, 1<<32), at(1, 1)),
		of(3, at(0, 0), at(1, 5), at(2, 4)),
		of(3, at(0, 1), at(1, 0), at(2, 1)),
		of(4, at(0, 0), at(1, 5), at(2, 1), at(3, 9)),
	} {
		refuses(t, a, api.ErrForm)
	}
	for _, room := range far() {
		refuses(t, of(64, at(room, 0)), api.ErrForm)
		refuses(t, of(64, at(0, 0), at(room, 0)), api.ErrForm)
	}
}

// P11.1: rooms that are right but for this, at each place.
func TestCheckOfEachPlace(t *testing.T) {
	for _, size := range []int{1, 2, 3, 32, 63, 64} {
		right := filled(size)
		for i := range size {
			for _, room := range []int{-1, size, size + 1, 1<<32 + i} {
				wrong := copyOf(right)
				wrong.Order[i].Room = room
				refuses(t, wrong, api.ErrForm)
			}
			for j := range size {
				wrong := copyOf(right)
				if wrong.Order[i].Room = j; i != j {
					refuses(t, wrong, api.ErrForm)
				}
			}
			if wrong := copyOf(right); i > 0 {
				wrong.Order[i].At = i - 2
				refuses(t, wrong, api.ErrForm)
			}
		}
	}
}

// P11.1: more in the order than there are rooms can't be right.
func TestCheckOfLongOrders(t *testing.T) {
	for _, many := range []int{65, 66, 100, 300, 100000} {
		a := of(64)
		for i := range many {
			a.Order = append(a.Order, at(i%64, i))
		}
		refuses(t, a, api.ErrForm)
	}
}

// P11.2: the least room that isn't taken is put behind all.
func TestTake(t *testing.T) {
	a := takes(t, of(3), -7, 0, of(3, at(0, -7)))
	a = takes(t, a, -7, 1, of(3, at(0, -7), at(1, -7)))
	a = takes(t, a, 9, 2, of(3, at(0, -7), at(1, -7), at(2, 9)))
	noTake(t, a, 9, api.ErrFull)
	noTake(t, a, math.MaxInt, api.ErrFull)
	takes(t, of(3, at(0, 1), at(2, 4)), 4, 1, of(3, at(0, 1), at(2, 4), at(1, 4)))
	takes(t, of(3, at(2, 1), at(0, 4)), 5, 1, of(3, at(2, 1), at(0, 4), at(1, 5)))
	takes(t, of(3, at(2, 1), at(1, 4)), 5, 0, of(3, at(2, 1), at(1, 4), at(0, 5)))
	takes(t, of(4, at(2, 1)), 1, 0, of(4, at(2, 1), at(0, 1)))
	takes(t, of(5, at(3, 0), at(1, 0), at(0, 0)), 2, 2, of(5, at(3, 0), at(1, 0), at(0, 0), at(2, 2)))
}

// P11.2: where no room is taken there is no last At, so any now will do.
func TestTakeOfTheFirst(t *testing.T) {
	for _, now := range []int{0, 1, -1, 1 << 32, -1 << 32, math.MinInt, math.MaxInt} {
		takes(t, of(1), now, 0, of(1, at(0, now)))
		takes(t, of(64), now, 0, of(64, at(0, now)))
	}
}

// P11.2: now may be the last At, and may not be less; ErrArg is told ahead of ErrFull and ErrNone.
func TestNowAheadOfTheLast(t *testing.T) {
	for _, last := range []int{5, 0, -5, 1 << 32, math.MinInt + 1, math.MaxInt} {
		a := of(3, at(1, math.MinInt), at(0, last))
		takes(t, a, last, 2, of(3, at(1, math.MinInt), at(0, last), at(2, last)))
		touches(t, a, 1, last, of(3, at(0, last), at(1, last)))
		touches(t, a, 0, last, a)
		full := of(2, at(1, math.MinInt), at(0, last))
		noTake(t, full, last, api.ErrFull)
		noTouch(t, a, 2, last, api.ErrNone)
		for _, now := range []int{last - 1, math.MinInt} {
			noTake(t, a, now, api.ErrArg)
			noTake(t, full, now, api.ErrArg)
			for _, room := range []int{0, 1, 2, 3, -1} {
				noTouch(t, a, room, now, api.ErrArg)
				noTouch(t, full, room, now, api.ErrArg)
			}
		}
	}
	noTouch(t, of(1, at(0, 5)), 0, 4, api.ErrArg)
}

// P11.2: a room leaves its place, and goes behind all.
func TestTouch(t *testing.T) {
	a := of(5, at(3, 1), at(0, 1), at(4, 2), at(1, 6))
	touches(t, a, 3, 6, of(5, at(0, 1), at(4, 2), at(1, 6), at(3, 6)))
	touches(t, a, 0, 7, of(5, at(3, 1), at(4, 2), at(1, 6), at(0, 7)))
	touches(t, a, 4, math.MaxInt, of(5, at(3, 1), at(0, 1), at(1, 6), at(4, math.MaxInt)))
	touches(t, a, 1, 8, of(5, at(3, 1), at(0, 1), at(4, 2), at(1, 8)))
	touches(t, a, 1, 6, a)
	noTouch(t, a, 2, 6, api.ErrNone)
	touches(t, of(1, at(0, 5)), 0, 9, of(1, at(0, 9)))
	noTouch(t, of(1), 0, 5, api.ErrNone)
	noTouch(t, of(64), 0, math.MinInt, api.ErrNone)
}

// P11.2: the others stay as they are, in their order.
func TestLeave(t *testing.T) {
	a := of(5, at(3, 1), at(0, 1), at(4, 2), at(1, 6))
	leaves(t, a, 3, of(5, at(0, 1), at(4, 2), at(1, 6)))
	leaves(t, a, 0, of(5, at(3, 1), at(4, 2), at(1, 6)))
	leaves(t, a, 4, of(5, at(3, 1), at(0, 1), at(1, 6)))
	leaves(t, a, 1, of(5, at(3, 1), at(0, 1), at(4, 2)))
	noLeave(t, a, 2, api.ErrNone)
	leaves(t, of(1, at(0, 5)), 0, of(1))
	noLeave(t, of(1), 0, api.ErrNone)
}

// P11.2: a room that isn't there isn't taken.
func TestRoomsThatAreNot(t *testing.T) {
	for _, a := range []api.Ages{of(1), of(64), filled(1), filled(3), filled(64)} {
		for _, room := range append(far(), a.Size) {
			noTouch(t, a, room, 100, api.ErrNone)
			noLeave(t, a, room, api.ErrNone)
		}
	}
}

// P11.2: a room that left is the next that is taken, if no lesser one is free.
func TestTakeAfterLeave(t *testing.T) {
	for _, size := range []int{1, 2, 3, 63, 64} {
		for room := range size {
			a, e := ages.Leave(filled(size), room)
			if e != api.OK {
				t.Fatalf("Leave of %d among %d rooms: error %d", room, size, e)
			}
			b, told, e := ages.Take(a, size)
			if told != room || e != api.OK || b.Order[size-1] != at(room, size) {
				t.Errorf("room %d of %d: Take tells %d, error %d, and %+v", room, size, told, e, b)
			}
		}
	}
}

// P11.3: those that were touched ahead of before go, and that time itself is not ahead of it.
func TestExpire(t *testing.T) {
	a := of(6, at(3, -2), at(0, 1), at(5, 1), at(4, 2), at(1, 6))
	expires(t, a, math.MinInt, a)
	expires(t, a, -2, a)
	expires(t, a, -1, of(6, at(0, 1), at(5, 1), at(4, 2), at(1, 6)), 3)
	expires(t, a, 1, of(6, at(0, 1), at(5, 1), at(4, 2), at(1, 6)), 3)
	expires(t, a, 2, of(6, at(4, 2), at(1, 6)), 3, 0, 5)
	expires(t, a, 3, of(6, at(1, 6)), 3, 0, 5, 4)
	expires(t, a, 6, of(6, at(1, 6)), 3, 0, 5, 4)
	expires(t, a, 7, of(6), 3, 0, 5, 4, 1)
	expires(t, a, math.MaxInt, of(6), 3, 0, 5, 4, 1)
	expires(t, of(6), math.MaxInt, of(6))
	expires(t, of(1, at(0, math.MaxInt)), math.MaxInt, of(1, at(0, math.MaxInt)))
	expires(t, of(1, at(0, math.MinInt)), math.MinInt, of(1, at(0, math.MinInt)))
	expires(t, of(1, at(0, math.MinInt)), math.MinInt+1, of(1), 0)
	expires(t, of(2, at(1, math.MinInt), at(0, math.MaxInt)), 0, of(2, at(0, math.MaxInt)), 1)
}

// Example 11 of the document: the room that was touched longest ago leaves first.
func TestLongestAgoLeavesFirst(t *testing.T) {
	a, _ := ages.New(3)
	a = takes(t, a, 1, 0, of(3, at(0, 1)))
	a = takes(t, a, 2, 1, of(3, at(0, 1), at(1, 2)))
	a = takes(t, a, 3, 2, of(3, at(0, 1), at(1, 2), at(2, 3)))
	a = touches(t, a, 0, 4, of(3, at(1, 2), at(2, 3), at(0, 4)))
	a = expires(t, a, 3, of(3, at(2, 3), at(0, 4)), 1)
	a = takes(t, a, 4, 1, of(3, at(2, 3), at(0, 4), at(1, 4)))
	a = leaves(t, a, 0, of(3, at(2, 3), at(1, 4)))
	expires(t, a, 5, of(3), 2, 1)
}

// P11.1 to P11.3: all orders of up to four stays that can be laid of some, right and wrong ones.
func TestAllSmallRooms(t *testing.T) {
	kinds := []api.Stay{at(0, 1), at(1, 1), at(2, 2), at(0, 2), at(1, 0), at(3, 3)}
	for size := range 5 {
		for long, all := 0, 1; long <= 4; long, all = long+1, all*len(kinds) {
			for n := range all {
				a := of(size)
				for range long {
					a.Order = append(a.Order, kinds[n%len(kinds)])
					n /= len(kinds)
				}
				for now := range 5 {
					asks(t, a, now-1, now)
				}
			}
		}
	}
}

// P11.1 to P11.3: any steps; there are never more rooms than may be, and just those that were taken and didn't leave.
func TestAnySteps(t *testing.T) {
	n := uint64(1)
	for _, size := range []int{1, 2, 5, 17, 63, 64} {
		a, now := of(size), -50
		has := map[int]int{}
		for range 3000 {
			now += random(&n, 3) * random(&n, 2)
			room := random(&n, size+2) - 1
			asks(t, a, room, now)
			asks(t, a, room, now-random(&n, 2*size))
			var b api.Ages
			var gone []int
			var e api.Errno
			switch random(&n, 8) {
			case 0:
				if b, e = ages.Leave(a, room); e == api.OK {
					delete(has, room)
				}
			case 1:
				b, gone, e = ages.Expire(a, now-random(&n, 2*size))
				for _, room := range gone {
					delete(has, room)
				}
			case 2, 3, 4:
				if b, e = ages.Touch(a, room, now); e == api.OK {
					has[room] = now
				}
			default:
				if b, room, e = ages.Take(a, now); e == api.OK {
					has[room] = now
				}
			}
			if e == api.OK {
				a = b
			}
			if e := ages.Check(a); e != api.OK || a.Size != size || len(a.Order) != len(has) {
				t.Fatalf("Check(%+v) = %d, and %d rooms are taken", a, e, len(has))
			}
			for _, s := range a.Order {
				if when, there := has[s.Room]; !there || when != s.At {
					t.Fatalf("%+v has %+v; want %d, %t", a, s, when, there)
				}
			}
		}
	}
}

// P1, P11.1 to P11.3: any orders, many of them wrong.
func TestAnyRooms(t *testing.T) {
	n := uint64(2)
	for range 30000 {
		a := of(random(&n, 67)-1, make([]api.Stay, random(&n, 12))...)
		if random(&n, 3) == 0 {
			a.Size = 1 + random(&n, 4)
		}
		now := random(&n, 20) - 10
		for i := range a.Order {
			now += random(&n, 9) / 2
			if random(&n, 20) == 0 {
				now--
			}
			a.Order[i] = at(random(&n, max(1, a.Size)+1)-random(&n, 2), now)
		}
		asks(t, a, random(&n, max(1, a.Size)), now+random(&n, 5)-2)
		asks(t, a, -1, now-random(&n, 20))
	}
}

// P2: neither the order that is handed in nor the room behind it is changed.
func TestNothingIsChanged(t *testing.T) {
	for _, size := range []int{1, 2, 9, 64} {
		full := filled(size)
		room := append(make([]api.Stay, 0, 3*size), full.Order...)
		for i := range 2 * size {
			room = append(room, at(i, -i))
		}
		before := slices.Clone(room)
		for many := range size + 1 {
			mine := of(size, room[:many]...)
			for i := range size {
				ages.Check(mine)
				ages.Take(mine, size+i)
				ages.Touch(mine, i, size+i)
				ages.Leave(mine, i)
				ages.Expire(mine, i+1)
				if !slices.Equal(room, before) {
					t.Fatalf("with %d of %d rooms and %d all is %+v, and was %+v", many, size, i, room, before)
				}
			}
		}
	}
}

// scribble writes over all stays and the spare room behind them.
func scribble(a api.Ages) {
	all := a.Order[:cap(a.Order)]
	for i := range all {
		all[i] = at(-99, math.MinInt)
	}
}

// P2: what is answered shares nothing with what was handed in, or with another answer.
func TestAnswersAreNew(t *testing.T) {
	for _, size := range []int{2, 3, 5, 63} {
		x := of(size+1, append(make([]api.Stay, 0, 200), filled(size).Order...)...)
		was := copyOf(x)
		answers := map[string]func() (api.Ages, api.Errno){
			"Take":                  func() (a api.Ages, e api.Errno) { a, _, e = ages.Take(x, 99); return a, e },
			"Touch of the first":    func() (api.Ages, api.Errno) { return ages.Touch(x, 0, 99) },
			"Touch of the last":     func() (api.Ages, api.Errno) { return ages.Touch(x, size-1, 99) },
			"Touch, and all as was": func() (api.Ages, api.Errno) { return ages.Touch(x, size-1, size-1) },
			"Leave of the first":    func() (api.Ages, api.Errno) { return ages.Leave(x, 0) },
			"Leave of the last":     func() (api.Ages, api.Errno) { return ages.Leave(x, size-1) },
			"Expire of none":        func() (a api.Ages, e api.Errno) { a, _, e = ages.Expire(x, 0); return a, e },
			"Expire of one":         func() (a api.Ages, e api.Errno) { a, _, e = ages.Expire(x, 1); return a, e },
			"Expire of all":         func() (a api.Ages, e api.Errno) { a, _, e = ages.Expire(x, 99); return a, e },
		}
		for name, ask := range answers {
			first, e := ask()
			want := copyOf(first)
			again, f := ask()
			scribble(first)
			if e != api.OK || f != api.OK || !same(x, was) || !same(again, want) {
				t.Errorf("%s with %d rooms: an answer that was written over changes other rooms", name, size)
			}
		}
		_, gone, _ := ages.Expire(x, size-1)
		for i := range gone[:cap(gone)] {
			gone[:cap(gone)][i] = -5
		}
		expires(t, x, size-1, of(size+1, at(size-1, size-1)), firstRooms(size-1)...)
	}
	a, _ := ages.New(9)
	b, _ := ages.New(9)
	scribble(a)
	takes(t, b, 1, 0, of(9, at(0, 1)))
}

// P2: what is answered hangs on what was handed in, not on what was asked ahead of it, and not on what comes of it later.
func TestEveryCallAnswersTheSameAgain(t *testing.T) {
	type answer struct {
		check, take, touch, leave, expire api.Errno
		taken, touched, left, kept        api.Ages
		room                              int
		gone                              []int
	}
	all := []api.Ages{
		filled(5), of(2), of(1, at(0, 3)), of(0), of(2, at(1, 3), at(0, 2)), of(7, at(6, 1), at(2, 1), at(3, 9)),
	}
	ask := func(i int) (a answer) {
		x := copyOf(all[i%len(all)])
		a.check = ages.Check(x)
		a.taken, a.room, a.take = ages.Take(x, i%13)
		a.touched, a.touch = ages.Touch(x, i%7, i%13)
		a.left, a.leave = ages.Leave(x, i%7)
		a.kept, a.gone, a.expire = ages.Expire(x, i%13)
		scribble(x)
		return a
	}
	first := make([]answer, 600)
	for i := range first {
		first[i] = ask(i)
	}
	for i := len(first) - 1; i >= 0; i-- {
		a, b := first[i], ask(i)
		errors := a.check == b.check && a.take == b.take && a.touch == b.touch && a.leave == b.leave && a.expire == b.expire
		rooms := same(a.taken, b.taken) && same(a.touched, b.touched) && same(a.left, b.left) && same(a.kept, b.kept)
		if !errors || !rooms || a.room != b.room || !slices.Equal(a.gone, b.gone) {
			t.Errorf("call %d is answered otherwise when it is asked again", i)
		}
	}
}
