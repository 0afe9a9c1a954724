package turns_test

import (
	"math"
	"slices"
	"testing"

	"customshouse/api"
	"customshouse/turns"
)

const million = 1000000

func of(share, saved int, sizes ...int) api.Queue {
	return api.Queue{Share: share, Saved: saved, Sizes: sizes}
}

func out(queue, size int) api.Sent { return api.Sent{Queue: queue, Size: size} }

func random(n *uint64, below int) int {
	*n = *n*6364136223846793005 + 1442695040888963407
	x := *n
	x = (x ^ x>>33) * 0xff51afd7ed558ccd
	return int((x ^ x>>33) % uint64(below))
}

// far are numbers that are out of all bounds; some of them would be in them, if their high bits were lost.
func far() []int {
	return []int{
		-1, -2, -5, -16, -200, -256, -65536, -65535, -million, math.MinInt32, -1 << 32, -1<<32 + 1, -1<<32 + 5, -1 << 40,
		-1<<40 + 5, -1 << 62, -1<<62 + 5, math.MinInt, math.MinInt + 1, math.MinInt + 5, math.MinInt + million, million + 1,
		2 * million, 1 << 31, 1 << 32, 1<<32 + 1, 1<<32 + 5, 1<<40 + 5, 1<<48 + 5, 1 << 62, 1<<62 + 5, 1<<63 - 5,
		math.MaxInt - million, math.MaxInt - 1, math.MaxInt,
	}
}

func copyOf(s api.Turns) api.Turns {
	var all api.Turns
	for _, q := range s {
		var sizes []int
		for _, size := range q.Sizes {
			sizes = append(sizes, size)
		}
		all = append(all, api.Queue{Share: q.Share, Saved: q.Saved, Sizes: sizes})
	}
	return all
}

func same(a, b api.Turns) bool {
	return slices.EqualFunc(a, b, func(a, b api.Queue) bool {
		return a.Share == b.Share && a.Saved == b.Saved && slices.Equal(a.Sizes, b.Sizes)
	})
}

// checkOf is Check by the words of P16.1.
func checkOf(s api.Turns) api.Errno {
	large, wrong, broken := len(s) > 16, false, false
	for _, q := range s {
		large = large || len(q.Sizes) > 200
		wrong = wrong || q.Share < 1 || q.Share > 1000000
		for _, size := range q.Sizes {
			wrong = wrong || size < 1 || size > 1000000
		}
		broken = broken || q.Saved < 0 || q.Saved != 0 && len(q.Sizes) == 0 || len(q.Sizes) > 0 && q.Saved >= q.Sizes[0]
	}
	switch {
	case large:
		return api.ErrLarge
	case wrong:
		return api.ErrArg
	case broken:
		return api.ErrForm
	}
	return api.OK
}

// putOf is Put by the words of P16.2.
func putOf(s api.Turns, queue, size int) (api.Turns, api.Errno) {
	if e := checkOf(s); e != api.OK {
		return nil, e
	}
	if queue < 0 || queue > len(s)-1 {
		return nil, api.ErrNone
	}
	if size < 1 || size > 1000000 {
		return nil, api.ErrArg
	}
	if len(s[queue].Sizes) >= 200 {
		return nil, api.ErrFull
	}
	all := copyOf(s)
	all[queue].Sizes = append(all[queue].Sizes, size)
	return all, api.OK
}

// roundOf is Round by the words of P16.3.
func roundOf(s api.Turns) (api.Turns, []api.Sent, api.Errno) {
	if e := checkOf(s); e != api.OK {
		return nil, nil, e
	}
	all := copyOf(s)
	var sent []api.Sent
	for i := range all {
		q := &all[i]
		if len(q.Sizes) == 0 {
			continue
		}
		q.Saved += q.Share
		for len(q.Sizes) > 0 && q.Sizes[0] <= q.Saved {
			sent = append(sent, api.Sent{Queue: i, Size: q.Sizes[0]})
			q.Saved -= q.Sizes[0]
			q.Sizes = q.Sizes[1:]
		}
		if len(q.Sizes) == 0 {
			q.Saved = 0
		}
	}
	return all, sent, api.OK
}

func checks(t *testing.T, s api.Turns, want api.Errno) {
	t.Helper()
	if e := turns.Check(s); e != want {
		t.Fatalf("Check(%v) = %d, want %d", s, e, want)
	}
}

func puts(t *testing.T, s api.Turns, queue, size int, want api.Turns, wrong api.Errno) {
	t.Helper()
	got, e := turns.Put(s, queue, size)
	if !same(got, want) || e != wrong {
		t.Fatalf("Put(%v, %d, %d) = %v, error %d; want %v, error %d", s, queue, size, got, e, want, wrong)
	}
	if e != api.OK && got != nil {
		t.Fatalf("Put(%v, %d, %d) told queues beside error %d", s, queue, size, e)
	}
}

func rounds(t *testing.T, s, want api.Turns, sent []api.Sent, wrong api.Errno) {
	t.Helper()
	got, list, e := turns.Round(s)
	if !same(got, want) || !slices.Equal(list, sent) || e != wrong {
		t.Fatalf("Round(%v) = %v, %v, error %d; want %v, %v, error %d", s, got, list, e, want, sent, wrong)
	}
	if e != api.OK && (got != nil || list != nil) {
		t.Fatalf("Round(%v) told lists beside error %d", s, e)
	}
}

// isWrong asks for the error of all calls, whatever else is wrong.
func isWrong(t *testing.T, s api.Turns, want api.Errno) {
	t.Helper()
	checks(t, s, want)
	rounds(t, s, nil, nil, want)
	for _, queue := range []int{0, 1, len(s) - 1, len(s), -1, math.MaxInt, math.MinInt} {
		for _, size := range []int{1, million, 0, -1, million + 1, math.MaxInt} {
			puts(t, s, queue, size, nil, want)
		}
	}
}

// isRight asks for what all calls tell of queues.
func isRight(t *testing.T, s api.Turns) {
	t.Helper()
	checks(t, s, api.OK)
	next, sent, e := roundOf(s)
	rounds(t, s, next, sent, e)
	for _, queue := range []int{0, len(s) - 1, len(s), -1} {
		for _, size := range []int{1, million, 0, million + 1} {
			next, e := putOf(s, queue, size)
			puts(t, s, queue, size, next, e)
		}
	}
}

// ones are sizes of 1.
func ones(many int) []int { return slices.Repeat([]int{1}, many) }

// bare are queues in which none waits.
func bare(many int) api.Turns { return slices.Repeat(api.Turns{of(1, 0)}, many) }

// P16.1: the edges that are in the bounds.
func TestCheckOfEdges(t *testing.T) {
	for _, many := range []int{0, 1, 2, 15, 16} {
		isRight(t, bare(many))
	}
	for _, many := range []int{0, 1, 2, 64, 199, 200} {
		isRight(t, api.Turns{of(1, 0, ones(many)...)})
		isRight(t, slices.Repeat(api.Turns{of(million, 0, ones(many)...)}, 16))
	}
	for _, size := range []int{1, 2, 65536, million - 1, million} {
		for _, share := range []int{1, 2, 65536, million - 1, million} {
			isRight(t, api.Turns{of(share, 0), of(share, 0, size), of(share, size-1, size), of(share, size/2, size, 1, million)})
		}
	}
	isRight(t, nil)
	isRight(t, api.Turns{})
	isRight(t, api.Turns{{Share: 1, Sizes: []int{}}})
}

// P16.1: more queues, or more that wait, than there may be, whatever else is wrong.
func TestCheckOfLargeOnes(t *testing.T) {
	for _, many := range []int{17, 18, 31, 32, 64, 256, 257, 272, 65536, 65537} {
		checks(t, bare(many), api.ErrLarge)
		checks(t, make(api.Turns, many), api.ErrLarge)
		rounds(t, make(api.Turns, many), nil, nil, api.ErrLarge)
	}
	isWrong(t, bare(17), api.ErrLarge)
	isWrong(t, make(api.Turns, 17), api.ErrLarge)
	for _, many := range []int{201, 202, 256, 257, 300, 456, 65536, 65537, 65736} {
		for place := range 3 {
			s := bare(3)
			s[place].Sizes = ones(many)
			isWrong(t, s, api.ErrLarge)
			s[0].Share, s[1].Saved = 0, -1
			isWrong(t, s, api.ErrLarge)
			s[place].Sizes = make([]int, many)
			isWrong(t, s, api.ErrLarge)
		}
	}
}

// P16.1: a share, or a size, out of its bounds, wherever it is, and also behind what is ErrForm.
func TestCheckOfWrongNumbers(t *testing.T) {
	for _, number := range append(far(), 0) {
		for place := range 4 {
			s := slices.Repeat(api.Turns{of(5, 0), of(5, 2, 3, 3, 3)}, 2)
			s[place].Share = number
			isWrong(t, s, api.ErrArg)
			for _, saved := range []int{-1, 3, 4, math.MaxInt, math.MinInt} {
				s[0].Saved = saved
				isWrong(t, s, api.ErrArg)
			}
		}
		for place := range 3 {
			for _, saved := range []int{0, 2, 3, -1, number} {
				sizes := []int{3, 3, 3}
				sizes[place] = number
				isWrong(t, api.Turns{of(5, 0), of(5, saved, sizes...), of(5, 0)}, api.ErrArg)
			}
		}
	}
	isWrong(t, make(api.Turns, 16), api.ErrArg)
	isWrong(t, api.Turns{of(5, 0, append(ones(199), 0)...)}, api.ErrArg)
	isWrong(t, append(bare(15), of(0, 0)), api.ErrArg)
}

// P16.1: what is saved, below 0, or not 0 where none waits, or enough for the first one.
func TestCheckOfWhatIsSaved(t *testing.T) {
	for _, saved := range append(far(), 1, 2, million) {
		isWrong(t, api.Turns{of(5, saved)}, api.ErrForm)
		isWrong(t, api.Turns{of(million, saved), of(5, 0, 1)}, api.ErrForm)
		isWrong(t, append(bare(15), of(million, saved)), api.ErrForm)
		isWrong(t, append(bare(15), api.Queue{Share: 5, Saved: saved, Sizes: []int{}}), api.ErrForm)
	}
	for _, size := range []int{1, 2, 3, 65536, million} {
		for _, saved := range append(far(), size, size+1, size+65536) {
			isWrong(t, api.Turns{of(5, saved, size)}, api.ErrForm)
			isWrong(t, api.Turns{of(5, saved, size, million, million)}, api.ErrForm)
			isWrong(t, api.Turns{of(5, 0, 1), of(million, saved, size), of(5, 0)}, api.ErrForm)
		}
		isRight(t, api.Turns{of(5, size-1, size, 1)})
	}
	isRight(t, api.Turns{of(5, 6, 7, 1, 1)})
	isWrong(t, api.Turns{of(5, 6, 1, 7, 7)}, api.ErrForm)
}

// P16.2: Put by hand.
func TestPut(t *testing.T) {
	s := api.Turns{of(5, 0), of(6, 2, 3, 9), of(7, 0, 4)}
	puts(t, s, 0, 8, api.Turns{of(5, 0, 8), of(6, 2, 3, 9), of(7, 0, 4)}, api.OK)
	puts(t, s, 1, 8, api.Turns{of(5, 0), of(6, 2, 3, 9, 8), of(7, 0, 4)}, api.OK)
	puts(t, s, 2, 8, api.Turns{of(5, 0), of(6, 2, 3, 9), of(7, 0, 4, 8)}, api.OK)
	puts(t, s, 1, 1, api.Turns{of(5, 0), of(6, 2, 3, 9, 1), of(7, 0, 4)}, api.OK)
	puts(t, s, 1, million, api.Turns{of(5, 0), of(6, 2, 3, 9, million), of(7, 0, 4)}, api.OK)
	puts(t, bare(16), 15, 1, append(bare(15), of(1, 0, 1)), api.OK)
}

// P16.2: queues that there are not, whatever the size is.
func TestPutToNone(t *testing.T) {
	for _, many := range []int{0, 1, 3, 16} {
		s := slices.Repeat(api.Turns{of(5, 2, ones(200)...)}, many)
		for i := range s {
			s[i].Sizes[0] = 3
		}
		for _, queue := range append(far(), many, many+1, 16, 17, 256+many) {
			for _, size := range []int{1, 0, million, million + 1, -1, math.MinInt} {
				puts(t, s, queue, size, nil, api.ErrNone)
			}
		}
	}
	puts(t, nil, 0, 1, nil, api.ErrNone)
}

// P16.2: sizes out of their bounds, also where the queue is full.
func TestPutOfWrongSizes(t *testing.T) {
	s := api.Turns{of(5, 0), of(6, 2, 3, 9), of(7, 0, ones(200)...)}
	for _, size := range append(far(), 0) {
		for queue := range s {
			puts(t, s, queue, size, nil, api.ErrArg)
		}
	}
}

// P16.2: as many as may wait.
func TestPutUntilFull(t *testing.T) {
	for place := range 3 {
		s := api.Turns{of(5, 2, 3), of(5, 0), of(5, 0, ones(200)...)}
		s[2].Sizes = s[2].Sizes[:place]
		for len(s[place].Sizes) < 200 {
			next, e := turns.Put(s, place, len(s[place].Sizes)+1)
			if e != api.OK {
				t.Fatalf("Put = error %d, where %d wait", e, len(s[place].Sizes))
			}
			s[place].Sizes = append(s[place].Sizes, len(s[place].Sizes)+1)
			if !same(next, s) {
				t.Fatalf("Put = %v, want %v", next, s)
			}
		}
		puts(t, s, place, 1, nil, api.ErrFull)
		puts(t, s, place, million, nil, api.ErrFull)
		other := (place + 1) % 3
		next, e := putOf(s, other, 7)
		puts(t, s, other, 7, next, e)
	}
}

// P16.3: Round by hand, and the example of the document: of a share of 5, and sizes 3 and 3, one is sent, and 2 are saved.
func TestRound(t *testing.T) {
	rounds(t, api.Turns{of(5, 0, 3, 3)}, api.Turns{of(5, 2, 3)}, []api.Sent{out(0, 3)}, api.OK)
	rounds(t, api.Turns{of(5, 2, 3)}, api.Turns{of(5, 0)}, []api.Sent{out(0, 3)}, api.OK)
	rounds(t, api.Turns{of(5, 1, 3, 3)}, api.Turns{of(5, 0)}, []api.Sent{out(0, 3), out(0, 3)}, api.OK)
	rounds(t, api.Turns{of(5, 0, 6)}, api.Turns{of(5, 5, 6)}, nil, api.OK)
	rounds(t, api.Turns{of(5, 5, 6)}, api.Turns{of(5, 0)}, []api.Sent{out(0, 6)}, api.OK)
	rounds(t, api.Turns{of(5, 0, 5)}, api.Turns{of(5, 0)}, []api.Sent{out(0, 5)}, api.OK)
	rounds(t, api.Turns{of(5, 0, 5, 1)}, api.Turns{of(5, 0, 1)}, []api.Sent{out(0, 5)}, api.OK)
	rounds(t, api.Turns{of(5, 0, 6, 1)}, api.Turns{of(5, 5, 6, 1)}, nil, api.OK)
	rounds(t, api.Turns{of(5, 0)}, api.Turns{of(5, 0)}, nil, api.OK)
	rounds(t, nil, nil, nil, api.OK)
	rounds(t, api.Turns{}, nil, nil, api.OK)
	rounds(t, api.Turns{of(9, 0, 2, 3, 4), of(4, 0), of(9, 6, 7, 5, 4), of(1, 0, 1, 1)},
		api.Turns{of(9, 0), of(4, 0), of(9, 3, 4), of(1, 0, 1)},
		[]api.Sent{out(0, 2), out(0, 3), out(0, 4), out(2, 7), out(2, 5), out(3, 1)}, api.OK)
}

// P16.3: one that waits goes once its share was put in often enough, and not ahead of that.
func TestRoundUntilGone(t *testing.T) {
	for share := 1; share < 20; share++ {
		for size := 1; size < 60; size++ {
			s, saved := api.Turns{of(share, 0, size)}, 0
			for saved+share < size {
				saved += share
				rounds(t, s, api.Turns{of(share, saved, size)}, nil, api.OK)
				s[0].Saved = saved
			}
			rounds(t, s, api.Turns{of(share, 0)}, []api.Sent{out(0, size)}, api.OK)
		}
	}
}

// P16.3: as many as there may be, and sizes and shares as great as they may be.
func TestRoundOfFullQueues(t *testing.T) {
	var sent []api.Sent
	for i := range 16 {
		for range 200 {
			sent = append(sent, out(i, 1))
		}
	}
	rounds(t, slices.Repeat(api.Turns{of(200, 0, ones(200)...)}, 16), slices.Repeat(api.Turns{of(200, 0)}, 16), sent, api.OK)
	rounds(t, slices.Repeat(api.Turns{of(million, 0, ones(200)...)}, 16), slices.Repeat(api.Turns{of(million, 0)}, 16), sent, api.OK)
	for _, share := range []int{1, 2, 100, 199} {
		s, want := bare(16), bare(16)
		sent = nil
		for i := range s {
			s[i], want[i] = of(share, 0, ones(200)...), of(share, 0, ones(200-share)...)
			sent = append(sent, slices.Repeat([]api.Sent{out(i, 1)}, share)...)
		}
		rounds(t, s, want, sent, api.OK)
	}
	rounds(t, api.Turns{of(million, million-1, million, million-1)}, api.Turns{of(million, 0)},
		[]api.Sent{out(0, million), out(0, million-1)}, api.OK)
	rounds(t, api.Turns{of(million, million-1, million, million)}, api.Turns{of(million, million-1, million)},
		[]api.Sent{out(0, million)}, api.OK)
	rounds(t, api.Turns{of(1, million-2, million)}, api.Turns{of(1, million-1, million)}, nil, api.OK)
	rounds(t, api.Turns{of(1, million-1, million)}, api.Turns{of(1, 0)}, []api.Sent{out(0, million)}, api.OK)
}

// someNumber is from 1 to a million, most often a small one.
func someNumber(n *uint64) int {
	switch random(n, 8) {
	case 0:
		return million - random(n, 3)
	case 1:
		return 1 + random(n, million)
	case 2:
		return 1 + random(n, 300)
	}
	return 1 + random(n, 12)
}

func someQueue(n *uint64) api.Queue {
	q := of(someNumber(n), 0)
	many := random(n, 8)
	if random(n, 10) == 0 {
		many = 190 + random(n, 11)
	}
	for range many {
		q.Sizes = append(q.Sizes, someNumber(n))
	}
	if many > 0 {
		q.Saved = random(n, q.Sizes[0])
	}
	return q
}

func someTurns(n *uint64) api.Turns {
	var s api.Turns
	for range random(n, 6) {
		s = append(s, someQueue(n))
	}
	if len(s) > 0 && random(n, 3) == 0 {
		spoil(n, &s[random(n, len(s))])
	}
	return s
}

func spoil(n *uint64, q *api.Queue) {
	number := far()[random(n, len(far()))]
	switch random(n, 5) {
	case 0:
		q.Share = number
	case 1:
		q.Saved = number
	case 2:
		q.Sizes = append(q.Sizes, number)
	case 3:
		q.Sizes = append(q.Sizes, ones(200)...)
	case 4:
		q.Saved += random(n, 20)
	}
}

// P16.1, P16.2 and P16.3: whatever queues, held against the chapter's words.
func TestAnyTurns(t *testing.T) {
	n, right := uint64(3), 0
	for range 20000 {
		s := someTurns(&n)
		checks(t, s, checkOf(s))
		queue, size := random(&n, len(s)+1), someNumber(&n)
		want, wrong := putOf(s, queue, size)
		puts(t, s, queue, size, want, wrong)
		next, sent, wrong := roundOf(s)
		rounds(t, s, next, sent, wrong)
		if wrong == api.OK {
			right++
			checks(t, next, api.OK)
		} else {
			isWrong(t, s, wrong)
		}
	}
	if right < 10000 {
		t.Errorf("just %d queues were right", right)
	}
}

// P16.3: each queue has its share: as long as one waits in it, what is sent is no more than what was put in, and less than
// that by no more than what is saved; what is sent of a queue is what was put in it, in order.
func TestEachQueueHasItsShare(t *testing.T) {
	n := uint64(9)
	for range 300 {
		s := api.Turns{of(1+random(&n, 50), 0), of(1+random(&n, 50), 0), of(1+random(&n, 50), 0)}
		var came, went [3][]int
		var sums [3]int
		for i := range s {
			for range 150 {
				size := 1 + random(&n, 60)
				next, e := turns.Put(s, i, size)
				if e != api.OK {
					t.Fatalf("Put = error %d", e)
				}
				s, came[i] = next, append(came[i], size)
			}
		}
		for round := 1; round < 400; round++ {
			next, sent, e := turns.Round(s)
			if e != api.OK {
				t.Fatalf("Round = error %d", e)
			}
			s = next
			for _, one := range sent {
				sums[one.Queue] += one.Size
				went[one.Queue] = append(went[one.Queue], one.Size)
			}
			for i, q := range s {
				if len(q.Sizes) > 0 && sums[i]+q.Saved != round*q.Share {
					t.Fatalf("of a share of %d %d were sent in %d rounds, and %d are saved", q.Share, sums[i], round, q.Saved)
				}
				if !slices.Equal(slices.Concat(went[i], q.Sizes), came[i]) {
					t.Fatalf("%v came, %v went, and %v wait", came[i], went[i], q.Sizes)
				}
			}
		}
	}
}

// withRoom has spare room behind all of its lists, in which there is something.
func withRoom(s api.Turns) api.Turns {
	all := make(api.Turns, len(s), len(s)+3)
	for i, q := range s {
		all[i] = of(q.Share, q.Saved, append(make([]int, 0, len(q.Sizes)+5), q.Sizes...)...)
		fill(all[i].Sizes[:cap(all[i].Sizes)][len(q.Sizes):])
	}
	room := all[len(s):cap(all)]
	for i := range room {
		room[i] = of(i+70, i+3, i+5, i+6)
	}
	return all
}

func fill(l []int) {
	for i := range l {
		l[i] = i + 90
	}
}

// whole is all that is in a list of queues, spare room too.
func whole(s api.Turns) api.Turns {
	all := copyOf(s[:cap(s)])
	for i, q := range s[:cap(s)] {
		all[i].Sizes = slices.Clone(q.Sizes[:cap(q.Sizes)])
	}
	return all
}

func lists() []api.Turns {
	return []api.Turns{
		nil, bare(1), bare(16), bare(17), {of(5, 2, 3, 9), of(5, 0), of(5, 0, 2, 2, 2)}, {of(5, 0, 5)}, {of(9, 0, 2, 3)},
		{of(5, 0, ones(200)...), of(5, 0, ones(199)...)}, {of(5, 0, ones(201)...)}, {of(0, 0)}, {of(5, 1)}, {of(5, 1, 1)},
		{of(5, 4, 12, 1, 1), of(million, 0, 1, 1, 1, 1, 1)},
	}
}

// P2.
func TestNothingIsChanged(t *testing.T) {
	for _, l := range lists() {
		s := withRoom(l)
		before := whole(s)
		turns.Check(s)
		turns.Round(s)
		for queue := -1; queue <= len(s); queue++ {
			turns.Put(s, queue, 4)
			turns.Put(s, queue, 0)
		}
		if !same(whole(s), before) {
			t.Fatalf("%v was changed", l)
		}
	}
}

// scribble writes into all that a list of queues holds, spare room too.
func scribble(s api.Turns) {
	for i, q := range s[:cap(s)] {
		fill(q.Sizes[:cap(q.Sizes)])
		s[:cap(s)][i].Share, s[:cap(s)][i].Saved = -i, -i
	}
}

// P2: what is told is new, its spare room too, and no two lists in it share any.
func TestAnswersAreNew(t *testing.T) {
	for _, l := range lists() {
		s := withRoom(l)
		before := whole(s)
		next, sent, _ := turns.Round(s)
		put, _ := turns.Put(s, 0, 4)
		want, _ := putOf(l, 0, 4)
		after, list, _ := roundOf(l)
		scribble(next)
		for i := range sent[:cap(sent)] {
			sent[:cap(sent)][i] = out(-1, -1)
		}
		if !same(put, want) {
			t.Fatalf("two answers share memory")
		}
		scribble(put)
		if !same(whole(s), before) {
			t.Fatalf("an answer shares memory with %v", l)
		}
		rounds(t, s, after, list, checkOf(l))
		sharesNone(t, l)
	}
}

// sharesNone appends to each list of an answer and asks that no other one is another.
func sharesNone(t *testing.T, l api.Turns) {
	t.Helper()
	next, _, _ := turns.Round(withRoom(l))
	put, _ := turns.Put(withRoom(l), 0, 4)
	for _, s := range []api.Turns{next, put} {
		for i := range s {
			before := copyOf(s)
			fill(s[i].Sizes[:cap(s[i].Sizes)])
			before[i].Sizes = slices.Clone(s[i].Sizes)
			if !same(s, before) {
				t.Fatalf("two queues of an answer to %v share memory", l)
			}
		}
	}
}

// P2: what is answered hangs on what was handed in, not on what was asked ahead of it, and not on spare room.
func TestEveryCallAnswersTheSameAgain(t *testing.T) {
	for i := range 200 {
		for _, room := range []int{0, 1} {
			n := uint64(i)
			s := someTurns(&n)
			if i%3 == 0 {
				s = lists()[i%len(lists())]
			}
			next, sent, wrong := roundOf(s)
			put, e := putOf(s, i%3, i)
			if room == 1 {
				s = withRoom(s)
			}
			turns.Round(someTurns(&n))
			checks(t, s, checkOf(s))
			rounds(t, s, next, sent, wrong)
			puts(t, s, i%3, i, put, e)
			rounds(t, s, next, sent, wrong)
		}
	}
}
