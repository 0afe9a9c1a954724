package bucket_test

import (
	"math"
	"math/big"
	"slices"
	"testing"

	"customshouse/api"
	"customshouse/bucket"
)

const (
	million  = 1000000
	thousand = 1000
	last     = 1 << 40
)

func of(rate, most, has, at int) api.Bucket {
	return api.Bucket{Rate: rate, Most: most, Has: has, At: at}
}

func random(n *uint64, below int) int {
	*n = *n*6364136223846793005 + 1442695040888963407
	x := *n
	x = (x ^ x>>33) * 0xff51afd7ed558ccd
	return int((x ^ x>>33) % uint64(below))
}

// far are numbers that are out of all bounds; some of them would be in them, if their high bits were lost.
func far() []int {
	return []int{
		-1, -2, -5, -256, -65536, -million, -thousand * million, math.MinInt32, -1 << 32, -1<<32 + 5, -1 << 40, -1<<40 + 5,
		-1 << 41, -1<<48 + 5, -1 << 62, -1<<62 + 5, math.MinInt, math.MinInt + 1, math.MinInt + 5, math.MinInt + million,
		1<<40 + 1, 1<<40 + 5, 1<<40 + million, 1 << 41, 1<<48 + 5, 1<<56 + 1, 1 << 62, 1<<62 + 5, 1<<63 - 5, math.MaxInt - 1,
		math.MaxInt,
	}
}

// beyond are far numbers, and those that are just more than most.
func beyond(most int) []int {
	return append(far(), most+1, most+2, most+100, 2*most+1)
}

// checkOf is Check by the words of P15.1.
func checkOf(b api.Bucket) api.Errno {
	switch {
	case b.Rate < 0 || b.Rate > 1000000, b.Most < 1 || b.Most > 1000000000:
		return api.ErrArg
	case b.Has < 0 || b.Has > b.Most, b.At < 0 || b.At > 1099511627776:
		return api.ErrForm
	}
	return api.OK
}

// levelOf is Level by the words of P15.2, with numbers that have no end.
func levelOf(b api.Bucket, now int) (int, api.Errno) {
	if e := checkOf(b); e != api.OK {
		return 0, e
	}
	if now < b.At || now > 1099511627776 {
		return 0, api.ErrArg
	}
	ticks := new(big.Int).Sub(big.NewInt(int64(now)), big.NewInt(int64(b.At)))
	sum := ticks.Mul(ticks, big.NewInt(int64(b.Rate)))
	sum.Add(sum, big.NewInt(int64(b.Has)))
	if sum.Cmp(big.NewInt(int64(b.Most))) > 0 {
		return b.Most, api.OK
	}
	return int(sum.Int64()), api.OK
}

// takeOf is Take by the words of P15.2.
func takeOf(b api.Bucket, now, n int) (api.Bucket, bool, api.Errno) {
	level, e := levelOf(b, now)
	if e == api.OK && (n < 0 || n > 1000000000) {
		e = api.ErrArg
	}
	if e != api.OK {
		return api.Bucket{}, false, e
	}
	if n <= level {
		return of(b.Rate, b.Most, level-n, now), true, api.OK
	}
	return of(b.Rate, b.Most, level, now), false, api.OK
}

// runOf is Run by the words of P15.3.
func runOf(b api.Bucket, l []api.Drop) (api.Bucket, []bool, api.Errno) {
	e := checkOf(b)
	if e == api.OK && len(l) > 500 {
		e = api.ErrLarge
	}
	var all []bool
	for i := 0; i < len(l) && e == api.OK; i++ {
		var told bool
		b, told, e = takeOf(b, l[i].At, l[i].N)
		all = append(all, told)
	}
	if e != api.OK {
		return api.Bucket{}, nil, e
	}
	return b, all, api.OK
}

func checks(t *testing.T, b api.Bucket, want api.Errno) {
	t.Helper()
	if e := bucket.Check(b); e != want {
		t.Fatalf("Check(%v) = %d, want %d", b, e, want)
	}
}

func levels(t *testing.T, b api.Bucket, now, want int, wrong api.Errno) {
	t.Helper()
	if v, e := bucket.Level(b, now); v != want || e != wrong {
		t.Fatalf("Level(%v, %d) = %d, error %d; want %d, error %d", b, now, v, e, want, wrong)
	}
}

func takes(t *testing.T, b api.Bucket, now, n int, want api.Bucket, told bool, wrong api.Errno) {
	t.Helper()
	if c, ok, e := bucket.Take(b, now, n); c != want || ok != told || e != wrong {
		t.Fatalf("Take(%v, %d, %d) = %v, %t, error %d; want %v, %t, error %d", b, now, n, c, ok, e, want, told, wrong)
	}
}

func runs(t *testing.T, b api.Bucket, l []api.Drop, want api.Bucket, told []bool, wrong api.Errno) {
	t.Helper()
	c, all, e := bucket.Run(b, l)
	if c != want || !slices.Equal(all, told) || e != wrong {
		t.Fatalf("Run(%v, %v) = %v, %v, error %d; want %v, %v, error %d", b, l, c, all, e, want, told, wrong)
	}
	if e != api.OK && all != nil {
		t.Fatalf("Run(%v, %v) told a list beside error %d", b, l, e)
	}
}

// isWrong asks for the error of all calls that are given a bucket, whatever else is wrong.
func isWrong(t *testing.T, b api.Bucket, want api.Errno) {
	t.Helper()
	checks(t, b, want)
	for _, now := range []int{0, 1, b.At, b.At - 1, b.At + 1, last, last + 1, -1} {
		levels(t, b, now, 0, want)
		for _, n := range []int{0, 1, -1, thousand * million, thousand*million + 1} {
			takes(t, b, now, n, api.Bucket{}, false, want)
			runs(t, b, []api.Drop{{At: now, N: n}}, api.Bucket{}, nil, want)
		}
	}
	runs(t, b, nil, api.Bucket{}, nil, want)
	runs(t, b, make([]api.Drop, 500), api.Bucket{}, nil, want)
	runs(t, b, make([]api.Drop, 501), api.Bucket{}, nil, want)
}

// isRight asks for what all calls tell of a bucket.
func isRight(t *testing.T, b api.Bucket) {
	t.Helper()
	checks(t, b, api.OK)
	levels(t, b, b.At, b.Has, api.OK)
	takes(t, b, b.At, 0, b, true, api.OK)
	runs(t, b, nil, b, nil, api.OK)
}

// P15.1: the edges that are in the bounds.
func TestCheckOfEdges(t *testing.T) {
	for _, rate := range []int{0, 1, 65536, million - 1, million} {
		for _, most := range []int{1, 2, 65536, thousand*million - 1, thousand * million} {
			for _, has := range []int{0, 1, most / 2, most - 1, most} {
				for _, at := range []int{0, 1, 1 << 31, 1 << 32, last - 1, last} {
					isRight(t, of(rate, most, has, at))
				}
			}
		}
	}
}

// P15.1: a rate, or a most, out of its bounds, whatever the others are.
func TestCheckOfRatesAndMosts(t *testing.T) {
	for _, rate := range beyond(million) {
		isWrong(t, of(rate, 10, 5, 7), api.ErrArg)
		isWrong(t, of(rate, 10, 11, -1), api.ErrArg)
		isWrong(t, of(rate, 0, 0, 0), api.ErrArg)
		isWrong(t, of(rate, thousand*million, 0, last), api.ErrArg)
	}
	for _, most := range append(beyond(thousand*million), 0) {
		isWrong(t, of(3, most, 0, 7), api.ErrArg)
		isWrong(t, of(3, most, most, 7), api.ErrArg)
		isWrong(t, of(3, most, -1, last+1), api.ErrArg)
		isWrong(t, of(million, most, 1, 0), api.ErrArg)
	}
	isWrong(t, api.Bucket{}, api.ErrArg)
	isWrong(t, of(million, thousand*million+1, 0, 0), api.ErrArg)
	isWrong(t, of(million+1, thousand*million, 0, 0), api.ErrArg)
}

// P15.1: what is in it, and its time, out of their bounds.
func TestCheckOfWhatIsInIt(t *testing.T) {
	for _, most := range []int{1, 2, 10, 65536, thousand * million} {
		for _, has := range beyond(most) {
			isWrong(t, of(3, most, has, 7), api.ErrForm)
			isWrong(t, of(0, most, has, -1), api.ErrForm)
		}
		for _, at := range beyond(last) {
			isWrong(t, of(3, most, 1, at), api.ErrForm)
			isWrong(t, of(million, most, 0, at), api.ErrForm)
			isWrong(t, of(million, most, most+1, at), api.ErrForm)
		}
	}
}

// P15.2: Level by hand.
func TestLevel(t *testing.T) {
	b := of(3, 10, 2, 100)
	for now, want := range map[int]int{100: 2, 101: 5, 102: 8, 103: 10, 104: 10, thousand: 10, last: 10} {
		levels(t, b, now, want, api.OK)
	}
	levels(t, of(4, 10, 2, 100), 102, 10, api.OK)
	levels(t, of(0, 10, 2, 100), last, 2, api.OK)
	levels(t, of(0, 10, 0, 0), last, 0, api.OK)
	levels(t, of(1, thousand*million, 0, 0), thousand*million-1, thousand*million-1, api.OK)
	levels(t, of(1, thousand*million, 0, 0), thousand*million+1, thousand*million, api.OK)
	levels(t, of(million, 1, 0, last-1), last, 1, api.OK)
	levels(t, of(million, thousand*million, 0, 5), 5+999, 999*million, api.OK)
}

// P15.2: numbers that don't fit what holds fewer bits: a sum is cut by Most just once it is whole.
func TestLevelOfLargeSums(t *testing.T) {
	for _, at := range []int{0, 1, thousand, 1 << 32, last - 1, last} {
		levels(t, of(million, thousand*million, thousand*million, at), last, thousand*million, api.OK)
	}
	levels(t, of(million, thousand*million, 0, 0), last, thousand*million, api.OK)
	for _, ticks := range []int{1 << 32, 1 << 33, 1<<32 + 1, 1 << 26, 1 << 31, 1 << 39} {
		levels(t, of(1, thousand*million, 7, 0), ticks, min(thousand*million, ticks+7), api.OK)
		levels(t, of(1<<6, thousand*million, 7, 9), 9+ticks, thousand*million, api.OK)
		levels(t, of(1<<19, thousand*million, 0, 9), 9+ticks, thousand*million, api.OK)
	}
}

// P15.2: a time out of its bounds.
func TestWrongTimes(t *testing.T) {
	for _, b := range []api.Bucket{of(3, 10, 2, 100), of(0, 1, 0, 1<<32), of(million, thousand*million, 5, last)} {
		for _, now := range append(beyond(last), b.At-1, b.At-2, 0, 1, b.At-thousand*million) {
			if now >= b.At && now <= last {
				continue
			}
			levels(t, b, now, 0, api.ErrArg)
			for _, n := range []int{0, 1, -1, math.MaxInt} {
				takes(t, b, now, n, api.Bucket{}, false, api.ErrArg)
				runs(t, b, []api.Drop{{At: now, N: n}}, api.Bucket{}, nil, api.ErrArg)
			}
		}
	}
}

// P15.2: Take by hand, and the example of the document: with 5 in it, 2 a tick, 8 are too much a tick later.
func TestTake(t *testing.T) {
	takes(t, of(2, 10, 5, 0), 1, 8, of(2, 10, 7, 1), false, api.OK)
	takes(t, of(2, 10, 5, 0), 1, 7, of(2, 10, 0, 1), true, api.OK)
	takes(t, of(2, 10, 5, 0), 1, 6, of(2, 10, 1, 1), true, api.OK)
	takes(t, of(2, 10, 5, 0), 2, 8, of(2, 10, 1, 2), true, api.OK)
	takes(t, of(2, 10, 5, 0), 3, 0, of(2, 10, 10, 3), true, api.OK)
	takes(t, of(2, 10, 5, 0), 3, 10, of(2, 10, 0, 3), true, api.OK)
	takes(t, of(2, 10, 5, 0), 3, 11, of(2, 10, 10, 3), false, api.OK)
	takes(t, of(2, 10, 5, 0), last, thousand*million, of(2, 10, 10, last), false, api.OK)
	takes(t, of(0, 10, 0, 4), 9, 0, of(0, 10, 0, 9), true, api.OK)
	takes(t, of(0, 10, 0, 4), 9, 1, of(0, 10, 0, 9), false, api.OK)
	takes(t, of(1, thousand*million, 0, 0), last, thousand*million, of(1, thousand*million, 0, last), true, api.OK)
	takes(t, of(1, thousand*million, 0, 0), thousand*million-1, thousand*million,
		of(1, thousand*million, thousand*million-1, thousand*million-1), false, api.OK)
}

// P15.2: as many as there may not be.
func TestTakeOfWrongNumbers(t *testing.T) {
	for _, b := range []api.Bucket{of(3, 10, 2, 100), of(0, 1, 0, last), of(million, thousand*million, 5, 0)} {
		for _, n := range beyond(thousand * million) {
			for _, now := range []int{b.At, min(b.At+1, last), last} {
				takes(t, b, now, n, api.Bucket{}, false, api.ErrArg)
				runs(t, b, []api.Drop{{At: now, N: 1}, {At: now, N: n}, {At: now, N: 1}}, api.Bucket{}, nil, api.ErrArg)
			}
		}
	}
}

// P15.2: whatever small bucket, time and number, by filling it tick by tick.
func TestSmallBuckets(t *testing.T) {
	for rate := range 4 {
		for most := 1; most < 7; most++ {
			for has := range most + 1 {
				level := has
				for ticks := range 7 {
					b, now := of(rate, most, has, 50), 50+ticks
					levels(t, b, now, level, api.OK)
					for n := range 9 {
						if n <= level {
							takes(t, b, now, n, of(rate, most, level-n, now), true, api.OK)
						} else {
							takes(t, b, now, n, of(rate, most, level, now), false, api.OK)
						}
					}
					for range rate {
						level = min(most, level+1)
					}
				}
			}
		}
	}
}

// P15.3: a run by hand.
func TestRun(t *testing.T) {
	b := of(2, 10, 5, 0)
	runs(t, b, []api.Drop{{At: 1, N: 8}, {At: 1, N: 7}, {At: 1, N: 1}, {At: 1, N: 0}, {At: 9, N: 4}},
		of(2, 10, 6, 9), []bool{false, true, false, true, true}, api.OK)
	runs(t, b, []api.Drop{{At: 0, N: 5}}, of(2, 10, 0, 0), []bool{true}, api.OK)
	runs(t, b, []api.Drop{{At: 0, N: 6}}, b, []bool{false}, api.OK)
	runs(t, b, []api.Drop{}, b, nil, api.OK)
	runs(t, b, []api.Drop{{At: last, N: 3}, {At: last, N: 8}}, of(2, 10, 7, last), []bool{true, false}, api.OK)
}

// P15.3: as many drops as there may be, and more.
func TestRunOfManyDrops(t *testing.T) {
	b := of(1, 10, 0, 0)
	for _, many := range []int{1, 63, 64, 200, 300, 499, 500} {
		l, told := make([]api.Drop, many), make([]bool, many)
		for i := range l {
			l[i] = api.Drop{At: i, N: 2}
			told[i] = i > 0 && i%2 == 0
		}
		runs(t, b, l, of(1, 10, 1-many%2, many-1), told, api.OK)
	}
	for _, many := range []int{501, 502, 512, 756, thousand, 65536, 65537, 66036} {
		runs(t, b, make([]api.Drop, many), api.Bucket{}, nil, api.ErrLarge)
		l := slices.Repeat([]api.Drop{{At: -1, N: -1}}, many)
		runs(t, b, l, api.Bucket{}, nil, api.ErrLarge)
	}
}

// P15.3: a wrong drop, wherever it is, and nothing is told but the error; what is wrong hangs on the drops ahead of it.
func TestRunOfWrongDrops(t *testing.T) {
	b := of(2, 10, 5, 100)
	for _, wrong := range []api.Drop{{At: 99, N: 1}, {At: last + 1}, {At: last, N: -1}, {At: 100, N: thousand*million + 1}} {
		for many := range 6 {
			l := append(slices.Repeat([]api.Drop{{At: 100, N: 1}}, many), wrong)
			runs(t, b, l, api.Bucket{}, nil, api.ErrArg)
			runs(t, b, append(l, api.Drop{At: last, N: 1}), api.Bucket{}, nil, api.ErrArg)
		}
		l := append(slices.Repeat([]api.Drop{{At: 100, N: 1}}, 499), wrong)
		runs(t, b, l, api.Bucket{}, nil, api.ErrArg)
	}
	runs(t, b, []api.Drop{{At: 105, N: 1}, {At: 104, N: 1}}, api.Bucket{}, nil, api.ErrArg)
	runs(t, b, []api.Drop{{At: 105, N: 100}, {At: 104, N: 1}}, api.Bucket{}, nil, api.ErrArg)
	runs(t, b, []api.Drop{{At: 104, N: 1}, {At: 105, N: 1}}, of(2, 10, 9, 105), []bool{true, true}, api.OK)
}

// near is some number from low to high, most often not far from one of them; now and then it is out of them.
func near(n *uint64, low, high int) int {
	switch random(n, 12) {
	case 0, 1, 2:
		return min(high, low+random(n, 5))
	case 3, 4:
		return max(low, high-random(n, 5))
	case 5, 6, 7:
		return low + random(n, min(high-low, 100)+1)
	case 8:
		return low + random(n, min(high-low, 1<<20)+1)
	}
	return low + random(n, high-low+1)
}

func someBucket(n *uint64) api.Bucket {
	b := of(near(n, 0, million), near(n, 1, thousand*million), 0, near(n, 0, last))
	b.Has = near(n, 0, b.Most)
	switch random(n, 40) {
	case 0:
		b.Rate = far()[random(n, len(far()))]
	case 1:
		b.Most = far()[random(n, len(far()))]
	case 2:
		b.Has = far()[random(n, len(far()))]
	case 3:
		b.At = far()[random(n, len(far()))]
	case 4:
		b.Has = b.Most + 1
	}
	return b
}

func someDrops(n *uint64, b api.Bucket, many int) []api.Drop {
	var l []api.Drop
	now := min(max(b.At, 0), last)
	// A step is at most twice as many ticks as fill a bucket that may be.
	most := min(max(b.Most, 1), thousand*million)
	step := 2*most/min(max(b.Rate, 1), million) + 1
	for range many {
		now = min(last, now+random(n, step+1))
		l = append(l, api.Drop{At: now, N: near(n, 0, min(most+5, thousand*million))})
		if random(n, 300) == 0 {
			l[len(l)-1].At -= 1 + random(n, 3)
		}
		if random(n, 300) == 0 {
			l[len(l)-1].N = far()[random(n, len(far()))]
		}
	}
	return l
}

// P15.1, P15.2 and P15.3: whatever bucket, held against the chapter's words.
func TestAnyBuckets(t *testing.T) {
	n, right := uint64(5), 0
	for range 20000 {
		b := someBucket(&n)
		checks(t, b, checkOf(b))
		now, many := near(&n, 0, last), near(&n, 0, thousand*million)
		if random(&n, 2) == 0 {
			now = b.At + random(&n, 100)
		}
		level, wrong := levelOf(b, now)
		levels(t, b, now, level, wrong)
		want, told, wrong := takeOf(b, now, many)
		takes(t, b, now, many, want, told, wrong)
		if checkOf(b) != api.OK {
			isWrong(t, b, checkOf(b))
			continue
		}
		l := someDrops(&n, b, random(&n, 30))
		end, all, wrong := runOf(b, l)
		runs(t, b, l, end, all, wrong)
		if wrong == api.OK {
			right++
			passesNoMore(t, b, l, all)
		}
	}
	if right < 10000 {
		t.Errorf("just %d runs were right", right)
	}
}

// passesNoMore asks that from one drop to another no more passes than a bucket and its rate, and that a drop that doesn't
// pass would have been too much.
func passesNoMore(t *testing.T, b api.Bucket, l []api.Drop, told []bool) {
	t.Helper()
	for i := range l {
		sum := 0
		for j := i; j < len(l); j++ {
			if told[j] {
				sum += l[j].N
			}
			if most := b.Most + b.Rate*(l[j].At-l[i].At); sum > most {
				t.Fatalf("of %v, %v %d pass from drop %d to drop %d, more than %d", b, l, sum, i, j, most)
			}
		}
	}
}

// P15.3: a run of two lists, one behind the other, is a run of both.
func TestRunInParts(t *testing.T) {
	n := uint64(11)
	for range 2000 {
		b := someBucket(&n)
		l := someDrops(&n, b, random(&n, 40))
		want, told, wrong := bucket.Run(b, l)
		if wrong != api.OK {
			continue
		}
		at := random(&n, len(l)+1)
		middle, first, e := bucket.Run(b, l[:at])
		if e != api.OK {
			t.Fatalf("Run(%v, %v) = error %d", b, l[:at], e)
		}
		runs(t, middle, l[at:], want, told[len(first):], api.OK)
		if !slices.Equal(first, told[:at]) {
			t.Fatalf("Run(%v, %v) told %v, and %v of more", b, l[:at], first, told)
		}
	}
}

// withRoom has spare room behind its drops, in which there are others.
func withRoom(l []api.Drop) []api.Drop {
	list := append(make([]api.Drop, 0, len(l)+40), l...)
	room := list[len(list):cap(list)]
	for i := range room {
		room[i] = api.Drop{At: i, N: -i}
	}
	return list
}

func lists() [][]api.Drop {
	return [][]api.Drop{
		nil, {{At: 7, N: 1}}, {{At: 7, N: 9}, {At: 8, N: 2}, {At: 8, N: 3}}, slices.Repeat([]api.Drop{{At: 9, N: 1}}, 500),
		slices.Repeat([]api.Drop{{At: 9, N: 1}}, 501), {{At: 7}, {At: 6}}, {{At: 7, N: -1}},
	}
}

// P2.
func TestNothingIsChanged(t *testing.T) {
	for _, l := range lists() {
		x := withRoom(l)
		before := slices.Clone(x[:cap(x)])
		for _, b := range []api.Bucket{of(1, 10, 5, 7), of(0, 0, 0, 0), of(1, 10, 11, 7)} {
			bucket.Run(b, x)
		}
		if !slices.Equal(x[:cap(x)], before) {
			t.Fatalf("%v was changed", l)
		}
	}
}

// P2: what is told is new, its spare room too.
func TestAnswersAreNew(t *testing.T) {
	for _, l := range lists() {
		b := of(1, 10, 5, 7)
		_, told, _ := bucket.Run(b, l)
		_, other, _ := bucket.Run(b, l)
		want := slices.Clone(other)
		told = told[:cap(told)]
		for i := range told {
			told[i] = !told[i]
		}
		if !slices.Equal(other, want) {
			t.Fatalf("two answers share memory")
		}
	}
}

// P2: what is answered hangs on what was handed in, not on what was asked ahead of it, and not on spare room.
func TestEveryCallAnswersTheSameAgain(t *testing.T) {
	type answer struct {
		errs       [4]api.Errno
		level      int
		took, left api.Bucket
		ok         bool
	}
	ask := func(i int, room bool) (a answer, told []bool) {
		n := uint64(i)
		b, l := someBucket(&n), lists()[i%len(lists())]
		if room {
			l = withRoom(l)
		}
		if i%3 == 0 {
			b = of(1+i%4, 10, 5, 7)
		}
		a.errs[0] = bucket.Check(b)
		a.level, a.errs[1] = bucket.Level(b, b.At+i%5)
		a.took, a.ok, a.errs[2] = bucket.Take(b, b.At+i%5, i%20)
		a.left, told, a.errs[3] = bucket.Run(b, l)
		return a, told
	}
	for i := range 100 {
		first, told := ask(i, false)
		for _, room := range []bool{false, true} {
			ask(i*7, room)
			if again, other := ask(i, room); again != first || !slices.Equal(told, other) {
				t.Errorf("call %d told %v, %v, and %v, %v when it is asked again", i, first, told, again, other)
			}
		}
	}
}
