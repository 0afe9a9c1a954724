package wheel_test

import (
	"math"
	"slices"
	"testing"

	"customshouse/api"
	"customshouse/wheel"
)

// last is the last time that there is.
const last = 16777215

func due(id, at int) api.Due { return api.Due{Id: id, At: at} }

func random(n *uint64, below int) int {
	*n = *n*6364136223846793005 + 1442695040888963407
	x := *n
	x = (x ^ x>>33) * 0xff51afd7ed558ccd
	return int((x ^ x>>33) % uint64(below))
}

// far are numbers that are out of all bounds; some of them would be in them, if their high bits were lost.
func far() []int {
	return []int{
		-1, -2, -16, -256, -65536, -last, -last - 1, -1 << 25, math.MinInt32, -1 << 32, -1<<32 + 1, -1<<32 + 300, -1<<32 + last,
		-1 << 40, -1<<40 + 300, -1 << 62, -1<<62 + 300, math.MinInt, math.MinInt + 1, math.MinInt + 300, math.MinInt + last,
		last + 1, last + 2, last + 301, 1 << 25, 1<<28 + 300, 1 << 31, 1 << 32, 1<<32 + 1, 1<<32 + 300, 1<<40 + 300, 1<<48 + 300,
		1 << 62, 1<<62 + 300, 1<<63 - 300, math.MaxInt - last, math.MaxInt - 1, math.MaxInt,
	}
}

// digitsOf are the six digits of a time, the lowest first.
func digitsOf(at int) [6]int {
	var all [6]int
	for k := range all {
		all[k] = at % 16
		at /= 16
	}
	return all
}

// placeOf is the list in which something stands, by the words of the chapter.
func placeOf(now, at int) int {
	a, n := digitsOf(at), digitsOf(now)
	for k := 5; k >= 0; k-- {
		if a[k] != n[k] {
			return 16*k + a[k]
		}
	}
	return -1
}

func manyOf(w api.Wheel) int {
	sum := 0
	for _, list := range w.Lists {
		sum += len(list)
	}
	return sum
}

// checkOf is Check by the words of P17.1.
func checkOf(w api.Wheel) api.Errno {
	if manyOf(w) > 500 {
		return api.ErrLarge
	}
	if w.Now < 0 || w.Now > last {
		return api.ErrArg
	}
	var ids []int
	for i, list := range w.Lists {
		for _, d := range list {
			if d.At < w.Now+1 || d.At > last || placeOf(w.Now, d.At) != i || slices.Contains(ids, d.Id) {
				return api.ErrForm
			}
			ids = append(ids, d.Id)
		}
	}
	return api.OK
}

func hasId(w api.Wheel, id int) bool {
	for _, list := range w.Lists {
		for _, d := range list {
			if d.Id == id {
				return true
			}
		}
	}
	return false
}

func copyOf(w api.Wheel) api.Wheel {
	all := api.Wheel{Now: w.Now}
	for i, list := range w.Lists {
		for _, d := range list {
			all.Lists[i] = append(all.Lists[i], d)
		}
	}
	return all
}

// setOf is Set by the words of P17.2.
func setOf(w api.Wheel, id, at int) (api.Wheel, api.Errno) {
	if e := checkOf(w); e != api.OK {
		return api.Wheel{}, e
	}
	if at < w.Now+1 || at > last {
		return api.Wheel{}, api.ErrArg
	}
	if hasId(w, id) {
		return api.Wheel{}, api.ErrTwice
	}
	if manyOf(w) >= 500 {
		return api.Wheel{}, api.ErrFull
	}
	all := copyOf(w)
	i := placeOf(w.Now, at)
	all.Lists[i] = append(all.Lists[i], due(id, at))
	return all, api.OK
}

// stopOf is Stop by the words of P17.2.
func stopOf(w api.Wheel, id int) (api.Wheel, api.Errno) {
	if e := checkOf(w); e != api.OK {
		return api.Wheel{}, e
	}
	if !hasId(w, id) {
		return api.Wheel{}, api.ErrNone
	}
	all := api.Wheel{Now: w.Now}
	for i, list := range w.Lists {
		for _, d := range list {
			if d.Id != id {
				all.Lists[i] = append(all.Lists[i], d)
			}
		}
	}
	return all, api.OK
}

// tickOf is Tick by the words of P17.3.
func tickOf(w api.Wheel, n int) (api.Wheel, []api.Due, api.Errno) {
	if e := checkOf(w); e != api.OK {
		return api.Wheel{}, nil, e
	}
	if n < 0 || n > 10000 || w.Now+n > last {
		return api.Wheel{}, nil, api.ErrArg
	}
	all := copyOf(w)
	var left []api.Due
	for range n {
		all.Now++
		for i, list := range all.Lists {
			all.Lists[i] = nil
			for _, d := range list {
				if d.At == all.Now {
					left = append(left, d)
				} else {
					all.Lists[i] = append(all.Lists[i], d)
				}
			}
		}
		moveOf(&all)
	}
	return all, left, api.OK
}

func moveOf(w *api.Wheel) {
	for i, list := range w.Lists {
		if len(list) == 0 || placeOf(w.Now, list[0].At) == i {
			continue
		}
		w.Lists[i] = nil
		for _, d := range list {
			k := placeOf(w.Now, d.At)
			w.Lists[k] = append(w.Lists[k], d)
		}
	}
}

func same(a, b api.Wheel) bool {
	for i := range a.Lists {
		if !slices.Equal(a.Lists[i], b.Lists[i]) {
			return false
		}
	}
	return a.Now == b.Now
}

func isZero(w api.Wheel) bool {
	for _, list := range w.Lists {
		if list != nil {
			return false
		}
	}
	return w.Now == 0
}

func checks(t *testing.T, w api.Wheel, want api.Errno) {
	t.Helper()
	if e := wheel.Check(w); e != want {
		t.Fatalf("Check(%v) = %d, want %d", w, e, want)
	}
}

func sets(t *testing.T, w api.Wheel, id, at int, want api.Wheel, wrong api.Errno) {
	t.Helper()
	got, e := wheel.Set(w, id, at)
	if !same(got, want) || e != wrong {
		t.Fatalf("Set(%v, %d, %d) = %v, error %d; want %v, error %d", w, id, at, got, e, want, wrong)
	}
	if e != api.OK && !isZero(got) {
		t.Fatalf("Set(%v, %d, %d) told %v beside error %d", w, id, at, got, e)
	}
}

func stops(t *testing.T, w api.Wheel, id int, want api.Wheel, wrong api.Errno) {
	t.Helper()
	got, e := wheel.Stop(w, id)
	if !same(got, want) || e != wrong {
		t.Fatalf("Stop(%v, %d) = %v, error %d; want %v, error %d", w, id, got, e, want, wrong)
	}
	if e != api.OK && !isZero(got) {
		t.Fatalf("Stop(%v, %d) told %v beside error %d", w, id, got, e)
	}
}

func ticks(t *testing.T, w api.Wheel, n int, want api.Wheel, left []api.Due, wrong api.Errno) {
	t.Helper()
	got, list, e := wheel.Tick(w, n)
	if !same(got, want) || !slices.Equal(list, left) || e != wrong {
		t.Fatalf("Tick(%v, %d) = %v, %v, error %d; want %v, %v, error %d", w, n, got, list, e, want, left, wrong)
	}
	if e != api.OK && (!isZero(got) || list != nil) {
		t.Fatalf("Tick(%v, %d) told %v, %v beside error %d", w, n, got, list, e)
	}
}

// isWrong asks for the error of all calls, whatever else is wrong.
func isWrong(t *testing.T, w api.Wheel, want api.Errno) {
	t.Helper()
	checks(t, w, want)
	for _, id := range []int{0, 1, -1, math.MaxInt} {
		stops(t, w, id, api.Wheel{}, want)
		for _, at := range []int{w.Now, w.Now + 1, 0, last, last + 1, -1, math.MinInt} {
			sets(t, w, id, at, api.Wheel{}, want)
		}
	}
	for _, n := range []int{0, 1, 10000, 10001, -1, math.MaxInt} {
		ticks(t, w, n, api.Wheel{}, nil, want)
	}
}

// isRight asks for what all calls tell of a wheel.
func isRight(t *testing.T, w api.Wheel) {
	t.Helper()
	checks(t, w, api.OK)
	for _, id := range []int{0, 1, -1} {
		next, e := stopOf(w, id)
		stops(t, w, id, next, e)
		for _, at := range []int{w.Now, w.Now + 1, w.Now + 300, last, last + 1} {
			next, e := setOf(w, id, at)
			sets(t, w, id, at, next, e)
		}
	}
	for _, n := range []int{0, 1, 2, 17} {
		next, left, e := tickOf(w, n)
		ticks(t, w, n, next, left, e)
	}
}

// of is a wheel with all of these set, one behind the other.
func of(t *testing.T, now int, all ...api.Due) api.Wheel {
	t.Helper()
	w := api.Wheel{Now: now}
	for _, d := range all {
		next, e := wheel.Set(w, d.Id, d.At)
		if e != api.OK {
			t.Fatalf("Set(%v, %d, %d) = error %d", w, d.Id, d.At, e)
		}
		w = next
	}
	return w
}

// full has as many as that, of Ids from 0 on, wherever they stand.
func full(now, many int) api.Wheel {
	w := api.Wheel{Now: now}
	for id := range many {
		at := now + 1 + id*id%(last-now)
		i := placeOf(now, at)
		w.Lists[i] = append(w.Lists[i], due(id, at))
	}
	return w
}

// times are Nows at the edges of digits, and others.
func times() []int {
	all := []int{0, 1, 5, 14, 1000000, 0x123456, 0x7fffff, 0xabcdef, 0xfedcba, 0xeeeeee, last - 300, last - 16, last - 2, last - 1}
	for k := range 6 {
		all = append(all, 1<<(4*k), 1<<(4*k)-1, 15<<(4*k), last-1<<(4*k), 7<<(4*k)+3)
	}
	return all
}

// P17.1: the edges that are in the bounds.
func TestCheckOfEdges(t *testing.T) {
	for _, now := range append(times(), last) {
		isRight(t, api.Wheel{Now: now})
		for k := range 24 {
			for _, at := range []int{now + 1<<k, now + 1<<k - 1, (now>>k + 1) << k} {
				if at > now && at <= last {
					w := api.Wheel{Now: now}
					w.Lists[placeOf(now, at)] = []api.Due{due(1, at), due(0, at)}
					isRight(t, w)
				}
			}
		}
	}
	isRight(t, api.Wheel{})
	for _, many := range []int{1, 2, 255, 256, 257, 499, 500} {
		isRight(t, full(0, many))
		isRight(t, full(1000000, many))
		w := api.Wheel{Now: 5}
		w.Lists[6] = slices.Repeat([]api.Due{due(0, 6)}, many)
		for i := range w.Lists[6] {
			w.Lists[6][i].Id = i * 65536
		}
		isRight(t, w)
	}
	var w api.Wheel
	for i := range w.Lists {
		w.Lists[i] = []api.Due{}
	}
	isRight(t, w)
}

// P17.1: an Id is any number.
func TestCheckOfIds(t *testing.T) {
	w, all := api.Wheel{Now: 5}, append(far(), 0, 1, 5, 1<<16)
	for i, id := range all {
		at := 6 + i*i*i
		k := placeOf(5, at)
		w.Lists[k] = append(w.Lists[k], due(id, at))
	}
	isRight(t, w)
	for _, id := range all {
		without, _ := stopOf(w, id)
		stops(t, w, id, without, api.OK)
		sets(t, w, id, 300, api.Wheel{}, api.ErrTwice)
		for i := range w.Lists {
			twice := copyOf(without)
			for k := range 16 {
				if at := 5 ^ k<<(i/16*4); placeOf(5, at) == i && at > 5 {
					twice.Lists[i] = append(twice.Lists[i], due(id, at))
					isRight(t, twice)
					twice.Lists[i] = append(twice.Lists[i], due(id, at))
					isWrong(t, twice, api.ErrForm)
				}
			}
		}
	}
}

// P17.1: more in all than there may be, whatever else is wrong.
func TestCheckOfLargeOnes(t *testing.T) {
	for _, many := range []int{501, 502, 512, 756, 1000, 65536, 65537, 66036} {
		for _, now := range []int{0, 5, 1000000, -1, last + 1, math.MinInt} {
			w := api.Wheel{Now: now}
			w.Lists[3] = make([]api.Due, many)
			isWrong(t, w, api.ErrLarge)
			w = api.Wheel{Now: now}
			for i := range many {
				w.Lists[i%96] = append(w.Lists[i%96], due(i, i))
			}
			isWrong(t, w, api.ErrLarge)
		}
		isWrong(t, full(0, many), api.ErrLarge)
		isWrong(t, full(1000000, many), api.ErrLarge)
	}
	w := full(7, 500)
	for i := range w.Lists {
		more := copyOf(w)
		more.Lists[i] = append(more.Lists[i], due(-5, 8))
		isWrong(t, more, api.ErrLarge)
	}
}

// P17.1: a Now out of its bounds, also where what is in the lists can't be.
func TestCheckOfWrongTimes(t *testing.T) {
	for _, now := range far() {
		w := api.Wheel{Now: now}
		isWrong(t, w, api.ErrArg)
		w.Lists[6] = []api.Due{due(1, 6)}
		isWrong(t, w, api.ErrArg)
		w.Lists[6] = []api.Due{due(1, now+1), due(1, now)}
		isWrong(t, w, api.ErrArg)
		w = full(5, 500)
		w.Now = now
		isWrong(t, w, api.ErrArg)
	}
}

// P17.1: what is due at a time that is out of its bounds, whichever list it stands in.
func TestCheckOfWrongDues(t *testing.T) {
	for _, now := range append(times(), last) {
		for _, at := range append(far(), 0, now, now-1, now-16) {
			for _, i := range []int{0, 1, 6, 15, 16, 17, 31, 80, 95} {
				w := api.Wheel{Now: now}
				w.Lists[i] = []api.Due{due(1, at)}
				isWrong(t, w, api.ErrForm)
			}
		}
	}
	for _, at := range append(far(), 0, 5) {
		for i := range 96 {
			w := full(5, 100)
			w.Lists[i] = append(w.Lists[i], due(-7, at))
			isWrong(t, w, api.ErrForm)
			w = full(5, 100)
			w.Lists[i] = slices.Insert(w.Lists[i], 0, due(-7, at))
			isWrong(t, w, api.ErrForm)
		}
	}
}

// P17.1: what stands in another list than it should.
func TestCheckOfPlaces(t *testing.T) {
	for _, now := range times() {
		for _, at := range []int{now + 1, now + 15, now + 16, now + 300, now + 70000, last} {
			for i := range 96 {
				if at > last {
					continue
				}
				w := api.Wheel{Now: now}
				w.Lists[i] = []api.Due{due(1, at)}
				if i == placeOf(now, at) {
					checks(t, w, api.OK)
				} else {
					isWrong(t, w, api.ErrForm)
				}
			}
		}
	}
	w := of(t, 5, due(1, 300), due(2, 301))
	w.Lists[33] = []api.Due{due(1, 300), due(2, 6)}
	isWrong(t, w, api.ErrForm)
}

// P17.1: two of one Id, in one list or in two.
func TestCheckOfTwoOfOneId(t *testing.T) {
	for _, now := range times() {
		for _, first := range []int{now + 1, now + 2, now + 40, now + 5000} {
			for _, other := range []int{now + 1, now + 2, now + 40, now + 5000, last} {
				if first > last || other > last {
					continue
				}
				w := api.Wheel{Now: now}
				for _, d := range []api.Due{due(3, first), due(8, first), due(3, other)} {
					i := placeOf(now, d.At)
					w.Lists[i] = append(w.Lists[i], d)
				}
				isWrong(t, w, api.ErrForm)
			}
		}
	}
	w := full(5, 500)
	w.Lists[6][0].Id = 499
	isWrong(t, w, api.ErrForm)
}

// P17.2: Set by hand.
func TestSet(t *testing.T) {
	w := of(t, 5, due(1, 6), due(2, 300), due(3, 20), due(4, 300), due(5, 16), due(6, 0x123456), due(7, last), due(8, 0x100))
	want := api.Wheel{Now: 5}
	want.Lists[6] = []api.Due{due(1, 6)}
	want.Lists[17] = []api.Due{due(3, 20), due(5, 16)}
	want.Lists[33] = []api.Due{due(2, 300), due(4, 300), due(8, 256)}
	want.Lists[81] = []api.Due{due(6, 0x123456)}
	want.Lists[95] = []api.Due{due(7, last)}
	if !same(w, want) {
		t.Fatalf("set are %v, want %v", w, want)
	}
	w = of(t, 0x123456, due(1, 0x123457), due(2, 0x123460), due(3, 0x12345f), due(4, 0x1234ff), due(5, 0x123500),
		due(6, 0x124000), due(7, 0x130000), due(8, 0x200000), due(9, 0xffffff), due(10, 0x123f57))
	want = api.Wheel{Now: 0x123456}
	want.Lists[7] = []api.Due{due(1, 0x123457)}
	want.Lists[15] = []api.Due{due(3, 0x12345f)}
	want.Lists[16+6] = []api.Due{due(2, 0x123460)}
	want.Lists[16+15] = []api.Due{due(4, 0x1234ff)}
	want.Lists[32+5] = []api.Due{due(5, 0x123500)}
	want.Lists[32+15] = []api.Due{due(10, 0x123f57)}
	want.Lists[48+4] = []api.Due{due(6, 0x124000)}
	want.Lists[64+3] = []api.Due{due(7, 0x130000)}
	want.Lists[80+2] = []api.Due{due(8, 0x200000)}
	want.Lists[80+15] = []api.Due{due(9, 0xffffff)}
	if !same(w, want) {
		t.Fatalf("set are %v, want %v", w, want)
	}
}

// P17.2: times out of their bounds, also where the Id is there already, and where there are as many as may be.
func TestSetOfWrongTimes(t *testing.T) {
	for _, now := range append(times(), last) {
		for _, w := range []api.Wheel{{Now: now}, full(min(now, last-1), 500), full(min(now, last-1), 3)} {
			for _, at := range append(far(), w.Now, w.Now-1, w.Now-16, 0, last+1) {
				if at <= w.Now || at > last {
					sets(t, w, 0, at, api.Wheel{}, api.ErrArg)
					sets(t, w, 2000, at, api.Wheel{}, api.ErrArg)
				}
			}
		}
	}
	sets(t, api.Wheel{Now: last}, 1, last, api.Wheel{}, api.ErrArg)
}

// P17.2: an Id that is there, also where there are as many as may be, and one that isn't, where there are.
func TestSetUntilFull(t *testing.T) {
	w := api.Wheel{Now: 77}
	for id := range 500 {
		at := 78 + id*id*67%(last-77)
		want, _ := setOf(w, id, at)
		sets(t, w, id, at, want, api.OK)
		w = want
		sets(t, w, id, 78, api.Wheel{}, api.ErrTwice)
		sets(t, w, id, at, api.Wheel{}, api.ErrTwice)
		sets(t, w, 0, last, api.Wheel{}, api.ErrTwice)
	}
	for id := range 500 {
		sets(t, w, id, 78, api.Wheel{}, api.ErrTwice)
		sets(t, w, id+500, 78, api.Wheel{}, api.ErrFull)
		sets(t, w, -1-id, last, api.Wheel{}, api.ErrFull)
	}
	fewer, _ := stopOf(w, 250)
	stops(t, w, 250, fewer, api.OK)
	want, _ := setOf(fewer, 900, 5000)
	sets(t, fewer, 900, 5000, want, api.OK)
}

// P17.2: Stop by hand, and of what isn't there.
func TestStop(t *testing.T) {
	w := of(t, 5, due(1, 6), due(2, 300), due(3, 20), due(4, 300), due(-9, 299))
	stops(t, w, 1, of(t, 5, due(2, 300), due(3, 20), due(4, 300), due(-9, 299)), api.OK)
	stops(t, w, 2, of(t, 5, due(1, 6), due(3, 20), due(4, 300), due(-9, 299)), api.OK)
	stops(t, w, 3, of(t, 5, due(1, 6), due(2, 300), due(4, 300), due(-9, 299)), api.OK)
	stops(t, w, 4, of(t, 5, due(1, 6), due(2, 300), due(3, 20), due(-9, 299)), api.OK)
	stops(t, w, -9, of(t, 5, due(1, 6), due(2, 300), due(3, 20), due(4, 300)), api.OK)
	for _, id := range append(far(), 0, 5, 6, 300) {
		stops(t, w, id, api.Wheel{}, api.ErrNone)
		stops(t, api.Wheel{Now: 5}, id, api.Wheel{}, api.ErrNone)
		if _, e := wheel.Stop(of(t, 5, due(id, 6)), id); e != api.OK {
			t.Fatalf("Stop of %d = error %d", id, e)
		}
	}
	w = full(1000, 500)
	for id := range 500 {
		want, e := stopOf(w, id)
		stops(t, w, id, want, e)
		stops(t, want, id, api.Wheel{}, api.ErrNone)
		w = want
	}
	stops(t, w, 0, api.Wheel{}, api.ErrNone)
}

// P17.3: Tick by hand, and the example of the document: from 14 on 17 is due three ticks later.
func TestTick(t *testing.T) {
	w := of(t, 14, due(1, 17))
	ticks(t, w, 0, w, nil, api.OK)
	ticks(t, w, 1, of(t, 15, due(1, 17)), nil, api.OK)
	moved := api.Wheel{Now: 16}
	moved.Lists[1] = []api.Due{due(1, 17)}
	ticks(t, w, 2, moved, nil, api.OK)
	ticks(t, w, 3, api.Wheel{Now: 17}, []api.Due{due(1, 17)}, api.OK)
	ticks(t, w, 4, api.Wheel{Now: 18}, []api.Due{due(1, 17)}, api.OK)

	w = of(t, 5, due(1, 6), due(2, 300), due(3, 20), due(4, 300), due(5, 16))
	ticks(t, w, 12, of(t, 17, due(2, 300), due(3, 20), due(4, 300)), []api.Due{due(1, 6), due(5, 16)}, api.OK)
	ticks(t, w, 294, of(t, 299, due(2, 300), due(4, 300)), []api.Due{due(1, 6), due(5, 16), due(3, 20)}, api.OK)
	ticks(t, w, 295, api.Wheel{Now: 300}, []api.Due{due(1, 6), due(5, 16), due(3, 20), due(2, 300), due(4, 300)}, api.OK)
	ticks(t, api.Wheel{}, 10000, api.Wheel{Now: 10000}, nil, api.OK)
	ticks(t, of(t, 0, due(3, 10001), due(2, 10000)), 10000, of(t, 10000, due(3, 10001)), []api.Due{due(2, 10000)}, api.OK)
}

// P17.3: what is in one list leaves it for several, in the order that it had, where a digit goes round.
func TestTickOverDigits(t *testing.T) {
	w := of(t, 0xfffff, due(1, 0x100001), due(2, 0x1fffff), due(3, 0x100000), due(4, 0x110000), due(5, 0x100001),
		due(6, 0x200000), due(7, 0x100010), due(8, 0x100100), due(9, 0x100100), due(10, 0x100011), due(11, 0x1f0000))
	want := api.Wheel{Now: 0x100000}
	want.Lists[1] = []api.Due{due(1, 0x100001), due(5, 0x100001)}
	want.Lists[16+1] = []api.Due{due(7, 0x100010), due(10, 0x100011)}
	want.Lists[32+1] = []api.Due{due(8, 0x100100), due(9, 0x100100)}
	want.Lists[64+1] = []api.Due{due(4, 0x110000)}
	want.Lists[64+15] = []api.Due{due(2, 0x1fffff), due(11, 0x1f0000)}
	want.Lists[80+2] = []api.Due{due(6, 0x200000)}
	ticks(t, w, 1, want, []api.Due{due(3, 0x100000)}, api.OK)
	for _, now := range times() {
		w := api.Wheel{Now: now}
		for id := range 200 {
			if at := now + 1 + id*7%40; at <= last {
				w, _ = setOf(w, id, at)
			}
			if at := now + 1 + id*id*id; at <= last {
				w, _ = setOf(w, -id-1, at)
			}
		}
		for n := range 50 {
			next, left, e := tickOf(w, n)
			ticks(t, w, n, next, left, e)
		}
	}
}

// P17.3: ticks out of their bounds, and beyond the last time.
func TestTickOfWrongNumbers(t *testing.T) {
	for _, w := range []api.Wheel{{}, full(5, 500), full(1000000, 20), {Now: last}} {
		for _, n := range append(far(), 10001, 10002, 65536, 65537, -10000) {
			ticks(t, w, n, api.Wheel{}, nil, api.ErrArg)
		}
	}
	for _, rest := range []int{0, 1, 2, 15, 16, 17, 256, 9998, 9999, 10000, 10001} {
		w := api.Wheel{Now: last - rest}
		var left []api.Due
		if rest > 0 {
			w, _ = setOf(w, 4, last)
			left = []api.Due{due(4, last)}
		}
		if rest <= 10000 {
			ticks(t, w, rest, api.Wheel{Now: last}, left, api.OK)
		}
		if rest < 10000 {
			ticks(t, w, rest+1, api.Wheel{}, nil, api.ErrArg)
			ticks(t, w, 10000, api.Wheel{}, nil, api.ErrArg)
		}
		for n := range min(rest, 3) {
			next, gone, e := tickOf(w, n)
			ticks(t, w, n, next, gone, e)
		}
	}
}

// someTime is from 0 to the last one, most often near the edge of a digit.
func someTime(n *uint64) int {
	if random(n, 3) == 0 {
		return random(n, last+1)
	}
	k := 4 * random(n, 6)
	return max(0, min(last, random(n, 16)<<k+random(n, 40)-20+random(n, 3)<<(4*random(n, 6))))
}

// someWheel has what was set in any order, some of it at one time.
func someWheel(n *uint64) api.Wheel {
	w := api.Wheel{Now: someTime(n)}
	many := random(n, 20)
	if random(n, 20) == 0 {
		many = 480 + random(n, 30)
	}
	at := 0
	for id := range many {
		if random(n, 3) > 0 {
			at = w.Now + 1 + random(n, 1<<(1+random(n, 24)))
		}
		if at > w.Now && at <= last {
			i := placeOf(w.Now, at)
			w.Lists[i] = append(w.Lists[i], due(id*3-9, at))
		}
	}
	if random(n, 4) == 0 {
		spoil(n, &w)
	}
	return w
}

func spoil(n *uint64, w *api.Wheel) {
	number, i := far()[random(n, len(far()))], random(n, 96)
	switch random(n, 6) {
	case 0:
		w.Now = number
	case 1:
		w.Lists[i] = append(w.Lists[i], due(-10, number))
	case 2:
		w.Lists[i] = append(w.Lists[i], due(-10, someTime(n)))
	case 3:
		w.Lists[i] = append(w.Lists[i], make([]api.Due, 490)...)
	case 4:
		w.Now = someTime(n)
	case 5:
		at := w.Now + 1 + random(n, 70)
		w.Lists[max(0, placeOf(w.Now, at))%96] = []api.Due{due(-9, at), due(random(n, 20)-9, at)}
	}
}

// P17.1, P17.2 and P17.3: whatever wheels, held against the chapter's words.
func TestAnyWheel(t *testing.T) {
	n, right, gone := uint64(3), 0, 0
	for range 8000 {
		w := someWheel(&n)
		checks(t, w, checkOf(w))
		id, at := random(&n, 70)-12, someTime(&n)
		want, wrong := setOf(w, id, at)
		sets(t, w, id, at, want, wrong)
		want, wrong = stopOf(w, id)
		stops(t, w, id, want, wrong)
		many := random(&n, 1<<random(&n, 8))
		next, left, wrong := tickOf(w, many)
		ticks(t, w, many, next, left, wrong)
		if wrong == api.OK {
			right++
			gone += len(left)
			checks(t, next, api.OK)
		} else if wrong = checkOf(w); wrong != api.OK {
			isWrong(t, w, wrong)
		}
	}
	if right < 4000 || gone < 4000 {
		t.Errorf("just %d wheels were right, and %d were due", right, gone)
	}
}

// P17.3: each leaves just when it is due, and of one time the one that was set first, however the time goes on, and whatever
// is set and stopped meanwhile.
func TestEachLeavesWhenItIsDue(t *testing.T) {
	for seed := range 60 {
		n := uint64(seed)
		w := api.Wheel{Now: someTime(&n)}
		var waits []api.Due
		for id := range 150 {
			at := min(last, w.Now+1+random(&n, 1<<(1+random(&n, 14))))
			if len(waits) > 0 && random(&n, 3) == 0 {
				at = waits[random(&n, len(waits))].At
			}
			if next, e := wheel.Set(w, id, at); e == api.OK {
				w, waits = next, append(waits, due(id, at))
			} else if at > w.Now {
				t.Fatalf("Set(%v, %d, %d) = error %d", w, id, at, e)
			}
			if len(waits) > 0 && random(&n, 5) == 0 {
				i := random(&n, len(waits))
				next, e := wheel.Stop(w, waits[i].Id)
				if e != api.OK {
					t.Fatalf("Stop(%v, %d) = error %d", w, waits[i].Id, e)
				}
				w, waits = next, slices.Delete(waits, i, i+1)
			}
			w, waits = goesOn(t, w, waits, min(last-w.Now, random(&n, 1<<random(&n, 12))))
		}
		for len(waits) > 0 {
			w, waits = goesOn(t, w, waits, min(last-w.Now, 10000))
		}
	}
}

// goesOn asks that those that are due leave, the earlier time first, and is what waits then.
func goesOn(t *testing.T, w api.Wheel, waits []api.Due, n int) (api.Wheel, []api.Due) {
	t.Helper()
	next, left, e := wheel.Tick(w, n)
	var want, later []api.Due
	for _, d := range waits {
		if d.At <= w.Now+n {
			want = append(want, d)
		} else {
			later = append(later, d)
		}
	}
	slices.SortStableFunc(want, func(a, b api.Due) int { return a.At - b.At })
	if e != api.OK || next.Now != w.Now+n || !slices.Equal(left, want) || manyOf(next) != len(later) {
		t.Fatalf("Tick(%v, %d) = %v, %v, error %d; want %v to leave", w, n, next, left, e, want)
	}
	return next, later
}

// withRoom has spare room behind all of its lists, in which there is something.
func withRoom(w api.Wheel) api.Wheel {
	for i, list := range w.Lists {
		room := make([]api.Due, 0, len(list)+3)
		w.Lists[i] = append(room, list...)
		fill(w.Lists[i][len(list):cap(room)])
	}
	return w
}

func fill(list []api.Due) {
	for i := range list {
		list[i] = due(i+900, i+90)
	}
}

// whole is all that is in a wheel, spare room too.
func whole(w api.Wheel) api.Wheel {
	for i, list := range w.Lists {
		w.Lists[i] = slices.Clone(list[:cap(list)])
	}
	return w
}

// scribble writes into all that a wheel holds, spare room too.
func scribble(w api.Wheel) {
	for _, list := range w.Lists {
		fill(list[:cap(list)])
	}
}

func wheels(t *testing.T) []api.Wheel {
	wrong := of(t, 5, due(1, 6), due(2, 300))
	wrong.Lists[17] = []api.Due{due(1, 16)}
	bad := of(t, 5, due(1, 6), due(2, 300))
	bad.Now = -1
	return []api.Wheel{
		{}, {Now: last}, full(5, 500), full(5, 501), full(14, 60), wrong, bad,
		of(t, 14, due(1, 17), due(2, 16), due(3, 15), due(4, 18), due(5, 32), due(6, 256), due(7, 17)),
		of(t, 255, due(1, 256), due(2, 257), due(3, 272), due(4, 257), due(5, 511), due(6, 512)),
	}
}

// P2.
func TestNothingIsChanged(t *testing.T) {
	for _, l := range wheels(t) {
		w := withRoom(l)
		before := whole(w)
		wheel.Check(w)
		for id := -1; id < 9; id++ {
			wheel.Stop(w, id)
			wheel.Set(w, id, l.Now+1)
			wheel.Set(w, 600+id, l.Now+1+id*id*id)
			wheel.Tick(w, id)
			wheel.Tick(w, id*100)
		}
		if !same(whole(w), before) {
			t.Fatalf("%v was changed", l)
		}
	}
}

// P2: what is told is new, its spare room too, and no two lists in it share any.
func TestAnswersAreNew(t *testing.T) {
	for _, l := range wheels(t) {
		for _, n := range []int{0, 1, 2, 3, 17, 255, 300} {
			w := withRoom(l)
			before := whole(w)
			next, left, _ := wheel.Tick(w, n)
			set, _ := wheel.Set(w, 600, l.Now+5)
			stop, _ := wheel.Stop(w, 2)
			wantNext, wantLeft, _ := tickOf(l, n)
			wantSet, _ := setOf(l, 600, l.Now+5)
			wantStop, _ := stopOf(l, 2)
			scribble(next)
			fill(left[:cap(left)])
			if !same(set, wantSet) || !same(stop, wantStop) {
				t.Fatalf("two answers share memory")
			}
			scribble(set)
			if !same(stop, wantStop) {
				t.Fatalf("two answers share memory")
			}
			scribble(stop)
			if !same(whole(w), before) {
				t.Fatalf("an answer shares memory with %v", l)
			}
			ticks(t, w, n, wantNext, wantLeft, checkTick(l, n))
			sharesNone(t, l, n)
		}
	}
}

func checkTick(w api.Wheel, n int) api.Errno {
	_, _, e := tickOf(w, n)
	return e
}

// sharesNone fills each list of an answer and asks that no other one is another.
func sharesNone(t *testing.T, l api.Wheel, n int) {
	t.Helper()
	next, left, _ := wheel.Tick(withRoom(l), n)
	set, _ := wheel.Set(withRoom(l), 600, l.Now+5)
	stop, _ := wheel.Stop(withRoom(l), 2)
	for _, w := range []api.Wheel{next, set, stop} {
		for i := range w.Lists {
			before, gone := copyOf(w), slices.Clone(left)
			fill(w.Lists[i][:cap(w.Lists[i])])
			before.Lists[i] = w.Lists[i]
			if !same(w, before) || !slices.Equal(gone, left) {
				t.Fatalf("two lists of an answer to %v share memory", l)
			}
		}
	}
	before := copyOf(next)
	fill(left[:cap(left)])
	if !same(next, before) {
		t.Fatalf("what left shares memory with the wheel behind %v", l)
	}
}

// P2: what is answered hangs on what was handed in, not on what was asked ahead of it, and not on spare room.
func TestEveryCallAnswersTheSameAgain(t *testing.T) {
	for i := range 200 {
		for _, room := range []int{0, 1} {
			n := uint64(i)
			w := someWheel(&n)
			if i%3 == 0 {
				w = wheels(t)[i%len(wheels(t))]
			}
			next, left, wrong := tickOf(w, i)
			set, setWrong := setOf(w, 600, w.Now+i)
			stop, stopWrong := stopOf(w, i%9)
			if room == 1 {
				w = withRoom(w)
			}
			wheel.Tick(someWheel(&n), i)
			checks(t, w, checkOf(w))
			ticks(t, w, i, next, left, wrong)
			sets(t, w, 600, w.Now+i, set, setWrong)
			stops(t, w, i%9, stop, stopWrong)
			ticks(t, w, i, next, left, wrong)
		}
	}
}
