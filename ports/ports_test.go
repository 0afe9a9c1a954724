package ports_test

import (
	"math"
	"testing"

	"customshouse/api"
	"customshouse/ports"
)

const (
	all   = math.MaxUint64
	evens = 0x5555555555555555
	odds  = 0xaaaaaaaaaaaaaaaa
)

func of(base int, taken uint64) api.Ports { return api.Ports{Base: base, Taken: taken} }

func random(n *uint64) uint64 {
	*n = *n*6364136223846793005 + 1442695040888963407
	x := *n
	x = (x ^ x>>33) * 0xff51afd7ed558ccd
	return x ^ x>>33
}

// far are numbers that no port has; some of them would be ports, if their high bits were lost.
func far() []int {
	return []int{
		-1, -2, -63, -64, -65, -1023, -1024, -65472, -65535, -65536, 65536, 65537, 65600, 1<<16 + 1024, 131072, 1 << 24,
		math.MaxInt32, math.MinInt32, 1 << 32, 1<<32 + 64, 1<<32 + 1024, 1<<32 + 1030, -1 << 32, -1<<32 + 1024,
		-1<<32 + 1030, math.MaxInt, math.MaxInt - 1, math.MaxInt - 63, math.MinInt, math.MinInt + 1, math.MinInt + 63,
		math.MinInt + 64, math.MinInt + 127, math.MinInt + 1024,
	}
}

// wrongBases are what Base may not be; some of them would be in bounds, if their high bits were lost.
func wrongBases() []int {
	return append(far(), 0, 1, 2, 32, 63, 65, 66, 96, 100, 127, 129, 1023, 1025, 1056, 65471, 65473, 65504, 65535, -128)
}

// rightBases are all that Base may be.
func rightBases() []int {
	var list []int
	for i := 1; i <= 1023; i++ {
		list = append(list, 64*i)
	}
	return list
}

func someTaken() []uint64 {
	list := []uint64{0, 1, 2, 3, evens, odds, all, all - 1, all - 2, all >> 1, 1 << 63, 1 << 62, 1 << 31, 1 << 32}
	n := uint64(1)
	for range 40 {
		list = append(list, random(&n), random(&n)&random(&n)&random(&n), random(&n)|random(&n)|random(&n))
	}
	return list
}

func isRight(base int) bool {
	for i := 1; i <= 1023; i++ {
		if base == 64*i {
			return true
		}
	}
	return false
}

// freeOf are the ports that are free, from the least on.
func freeOf(p api.Ports) []int {
	var list []int
	for port, taken := p.Base, p.Taken; port <= p.Base+63; port, taken = port+1, taken/2 {
		if taken%2 == 0 {
			list = append(list, port)
		}
	}
	return list
}

func isFree(p api.Ports, port int) bool {
	for _, other := range freeOf(p) {
		if other == port {
			return true
		}
	}
	return false
}

// worth is what a port that is one of p's adds to Taken.
func worth(p api.Ports, port int) uint64 {
	n := uint64(1)
	for range port - p.Base {
		n *= 2
	}
	return n
}

// letOf is Let by the words of P12.2.
func letOf(p api.Ports, want int) (api.Ports, int, api.Errno) {
	if !isRight(p.Base) || want < 0 || want > 65535 {
		return api.Ports{}, 0, api.ErrArg
	}
	free := freeOf(p)
	if len(free) == 0 {
		return api.Ports{}, 0, api.ErrFull
	}
	port := free[0]
	for i := range free {
		if last := free[len(free)-1-i]; last%2 == want%2 {
			port = last
		}
	}
	if isFree(p, want) {
		port = want
	}
	return of(p.Base, p.Taken+worth(p, port)), port, api.OK
}

// endOf is End by the words of P12.2.
func endOf(p api.Ports, port int) (api.Ports, api.Errno) {
	if !isRight(p.Base) {
		return api.Ports{}, api.ErrArg
	}
	if port < p.Base || port > p.Base+63 || isFree(p, port) {
		return api.Ports{}, api.ErrNone
	}
	return of(p.Base, p.Taken-worth(p, port)), api.OK
}

// asks holds all that ports answer against the words of the chapter.
func asks(t *testing.T, p api.Ports, port int) {
	t.Helper()
	if e := ports.Check(p); (e == api.OK) != isRight(p.Base) || e != api.OK && e != api.ErrArg {
		t.Fatalf("Check(%+v) = %d", p, e)
	}
	q, told, e := ports.Let(p, port)
	if want, let, wrong := letOf(p, port); q != want || told != let || e != wrong {
		t.Fatalf("Let(%+v, %d) = %+v, %d, error %d; want %+v, %d, error %d", p, port, q, told, e, want, let, wrong)
	}
	q, e = ports.End(p, port)
	if want, wrong := endOf(p, port); q != want || e != wrong {
		t.Fatalf("End(%+v, %d) = %+v, error %d; want %+v, error %d", p, port, q, e, want, wrong)
	}
	free, e := ports.Free(p)
	if isRight(p.Base) && (free != len(freeOf(p)) || e != api.OK) || !isRight(p.Base) && (free != 0 || e != api.ErrArg) {
		t.Fatalf("Free(%+v) = %d, error %d", p, free, e)
	}
}

func lets(t *testing.T, p api.Ports, want, port int, taken uint64) api.Ports {
	t.Helper()
	q, told, e := ports.Let(p, want)
	if q != of(p.Base, taken) || told != port || e != api.OK {
		t.Errorf("Let(%+v, %d) = %+v, %d, error %d; want taken %x, %d", p, want, q, told, e, taken, port)
	}
	return q
}

func noLet(t *testing.T, p api.Ports, want int, wrong api.Errno) {
	t.Helper()
	if q, port, e := ports.Let(p, want); q != (api.Ports{}) || port != 0 || e != wrong {
		t.Errorf("Let(%+v, %d) = %+v, %d, error %d; want error %d", p, want, q, port, e, wrong)
	}
}

func ends(t *testing.T, p api.Ports, port int, taken uint64) api.Ports {
	t.Helper()
	q, e := ports.End(p, port)
	if q != of(p.Base, taken) || e != api.OK {
		t.Errorf("End(%+v, %d) = %+v, error %d; want taken %x", p, port, q, e, taken)
	}
	return q
}

func noEnd(t *testing.T, p api.Ports, port int, wrong api.Errno) {
	t.Helper()
	if q, e := ports.End(p, port); q != (api.Ports{}) || e != wrong {
		t.Errorf("End(%+v, %d) = %+v, error %d; want error %d", p, port, q, e, wrong)
	}
}

func frees(t *testing.T, p api.Ports, many int) {
	t.Helper()
	if n, e := ports.Free(p); n != many || e != api.OK {
		t.Errorf("Free(%+v) = %d, error %d; want %d", p, n, e, many)
	}
}

// P12.1: all bases that there are, and all numbers between them.
func TestCheck(t *testing.T) {
	right := map[int]bool{}
	for _, base := range rightBases() {
		right[base] = true
	}
	for base := -70000; base <= 140000; base++ {
		want := api.ErrArg
		if right[base] {
			want = api.OK
		}
		for _, taken := range []uint64{0, 5, all} {
			if e := ports.Check(of(base, taken)); e != want {
				t.Fatalf("Check(%+v) = %d, want %d", of(base, taken), e, want)
			}
		}
	}
}

// P12.1: all calls tell Check's error, with nothing beside it, ahead of all others.
func TestWrongBases(t *testing.T) {
	for _, base := range wrongBases() {
		for _, taken := range []uint64{0, 1, evens, all} {
			p := of(base, taken)
			if e := ports.Check(p); e != api.ErrArg {
				t.Errorf("Check(%+v) = %d", p, e)
			}
			if n, e := ports.Free(p); n != 0 || e != api.ErrArg {
				t.Errorf("Free(%+v) = %d, error %d", p, n, e)
			}
			for _, port := range append(far(), 0, 1, 80, 1024, 65535, base, base+1, base+63, base+64) {
				noLet(t, p, port, api.ErrArg)
				noEnd(t, p, port, api.ErrArg)
			}
		}
	}
}

// P12.2: bit k is that of Base + k, at the least and at the greatest base, too.
func TestBits(t *testing.T) {
	for _, base := range rightBases() {
		for k := range 64 {
			bit := uint64(1) << k
			lets(t, of(base, 0), base+k, base+k, bit)
			lets(t, of(base, all-bit), base+k, base+k, all)
			lets(t, of(base, all-bit), base+(k+1)%64, base+k, all)
			ends(t, of(base, bit), base+k, 0)
			ends(t, of(base, all), base+k, all-bit)
			noEnd(t, of(base, 0), base+k, api.ErrNone)
			noEnd(t, of(base, all-bit), base+k, api.ErrNone)
			noLet(t, of(base, all), base+k, api.ErrFull)
		}
	}
}

// P12.2: a port that is wanted, one of these and free is told, whatever else is free.
func TestLetOfWhatIsWanted(t *testing.T) {
	lets(t, of(1024, 0), 1024, 1024, 1)
	lets(t, of(1024, 0), 1025, 1025, 2)
	lets(t, of(1024, 0), 1030, 1030, 1<<6)
	lets(t, of(1024, 1<<6), 1087, 1087, 1<<63|1<<6)
	lets(t, of(64, 0), 64, 64, 1)
	lets(t, of(65472, 0), 65535, 65535, 1<<63)
	lets(t, of(65472, all>>1), 65535, 65535, all)
}

// P12.2, and example 12 of the document: whoever wants an even port gets an even one, and the least of them.
func TestLetOfOnesLike(t *testing.T) {
	lets(t, of(1024, 1<<6), 1030, 1024, 1<<6|1)
	lets(t, of(1024, 1<<7), 1031, 1025, 1<<7|2)
	lets(t, of(1024, 1<<7|2), 1031, 1027, 1<<7|2|8)
	lets(t, of(1024, 1<<6|1|4), 1030, 1028, 1<<6|1|4|1<<4)
	lets(t, of(1024, 1<<6|1|4|1<<4), 1030, 1032, 1<<6|1|4|1<<4|1<<8)
	for _, want := range []int{0, 2, 80, 1022, 1088, 1090, 65534} {
		lets(t, of(1024, 0), want, 1024, 1)
		lets(t, of(1024, 1), want, 1026, 5)
		lets(t, of(1024, evens>>2), want, 1086, evens>>2|1<<62)
	}
	for _, want := range []int{1, 3, 81, 1023, 1089, 1091, 65535} {
		lets(t, of(1024, 0), want, 1025, 2)
		lets(t, of(1024, 2), want, 1027, 10)
		lets(t, of(1024, odds>>2), want, 1087, odds>>2|1<<63)
	}
}

// P12.2: where none is like the one that is wanted the least one is told.
func TestLetOfOthers(t *testing.T) {
	for _, want := range []int{0, 80, 1024, 1030, 1086, 1088, 65534} {
		lets(t, of(1024, evens), want, 1025, evens|2)
		lets(t, of(1024, evens|2), want, 1027, evens|10)
		lets(t, of(1024, all>>1), want, 1087, all)
	}
	for _, want := range []int{1, 81, 1023, 1025, 1031, 1087, 65535} {
		lets(t, of(1024, odds), want, 1024, odds|1)
		lets(t, of(1024, odds|1), want, 1026, odds|5)
		lets(t, of(1024, all-1<<62), want, 1086, all)
	}
}

// P12.2: want may be from 0 to 65535; ErrArg is told ahead of ErrFull.
func TestLetOfWrongWants(t *testing.T) {
	for _, base := range []int{64, 1024, 65472} {
		for _, want := range far() {
			noLet(t, of(base, 0), want, api.ErrArg)
			noLet(t, of(base, evens), want, api.ErrArg)
			noLet(t, of(base, all), want, api.ErrArg)
		}
		for _, want := range []int{0, 1, 63, 64, 80, 1024, 65534, 65535} {
			noLet(t, of(base, all), want, api.ErrFull)
		}
	}
	lets(t, of(1024, 0), 0, 1024, 1)
	lets(t, of(1024, 0), 65535, 1025, 2)
}

// P12.2: what is none of these isn't let, though another row's port of the same place may be.
func TestEndOfOthers(t *testing.T) {
	for _, base := range []int{64, 128, 1024, 65408, 65472} {
		for _, taken := range []uint64{0, 1, 1 << 63, evens, all} {
			for _, port := range append(far(), 0, base-1, base-64, base+64, base+65, base+128, -base, base+1<<32) {
				noEnd(t, of(base, taken), port, api.ErrNone)
			}
		}
	}
}

// P12.2.
func TestEnd(t *testing.T) {
	p := ends(t, of(1024, 1<<6|1<<7|1), 1030, 1<<7|1)
	noEnd(t, p, 1030, api.ErrNone)
	p = ends(t, p, 1024, 1<<7)
	p = ends(t, p, 1031, 0)
	noEnd(t, p, 1031, api.ErrNone)
	ends(t, of(65472, all), 65535, all>>1)
	ends(t, of(64, all), 64, all-1)
}

// P12.2.
func TestFree(t *testing.T) {
	for _, base := range rightBases() {
		frees(t, of(base, 0), 64)
		frees(t, of(base, all), 0)
		frees(t, of(base, evens), 32)
		frees(t, of(base, odds), 32)
		frees(t, of(base, 7), 61)
		frees(t, of(base, all>>1), 1)
		frees(t, of(base, 1<<63), 63)
	}
}

// P12.2: sixty-four are let, each of them once, and none more.
func TestAllAreLetOnce(t *testing.T) {
	for _, base := range []int{64, 1024, 32768, 65472} {
		for _, want := range []int{0, 1, base, base + 1, base + 62, base + 63, 65534, 65535} {
			p, seen := of(base, 0), map[int]bool{}
			for i := range 64 {
				frees(t, p, 64-i)
				q, port, e := ports.Let(p, want)
				if port < base || port > base+63 || seen[port] || e != api.OK {
					t.Fatalf("Let(%+v, %d) = %+v, %d, error %d", p, want, q, port, e)
				}
				if like := port%2 == want%2; like != (i < 32) {
					t.Errorf("Let(%+v, %d) tells %d", p, want, port)
				}
				p, seen[port] = q, true
			}
			noLet(t, p, want, api.ErrFull)
			frees(t, p, 0)
		}
	}
}

// P12.1 and P12.2: all wants that there are, and those around them.
func TestAllWants(t *testing.T) {
	for _, p := range []api.Ports{of(1024, 0x00ff00f10f0ff3c5), of(64, evens), of(65472, odds|3), of(32768, 0), of(4096, all)} {
		for want := -200; want <= 65800; want++ {
			asks(t, p, want)
		}
	}
}

// P1, P12.1 and P12.2: many ports, right and wrong ones.
func TestAnyPorts(t *testing.T) {
	n := uint64(2)
	bases := append(wrongBases(), 64, 128, 192, 1024, 4096, 32704, 32768, 65408, 65472)
	for _, base := range bases {
		for _, taken := range someTaken() {
			p := of(base, taken)
			for _, port := range append(far(), 0, 1, 65534, 65535, base, base+1, base+62, base+63, base+64, base-1) {
				asks(t, p, port)
			}
			for range 6 {
				asks(t, p, base+int(random(&n)%70)-3)
				asks(t, p, int(random(&n)))
			}
		}
	}
}

// P12.2: any steps; just those are let that were told and didn't end, and no two have one port.
func TestAnySteps(t *testing.T) {
	n := uint64(3)
	for _, base := range []int{64, 1024, 65472} {
		p, has := of(base, 0), map[int]bool{}
		for i := range 20000 {
			port := base + int(random(&n)%72) - 4
			asks(t, p, port)
			// More are let than end for a while, and then more end.
			if random(&n)%8 < uint64(2+i/2000%2*4) {
				q, e := ports.End(p, port)
				if (e == api.OK) != has[port] {
					t.Fatalf("End(%+v, %d) = %+v, error %d, and that it is let is %t", p, port, q, e, has[port])
				}
				if e == api.OK {
					delete(has, port)
					p = q
				}
			} else if q, told, e := ports.Let(p, max(0, min(port, 65535))); e == api.OK {
				if has[told] {
					t.Fatalf("Let(%+v, %d) tells %d, which is let", p, port, told)
				}
				has[told] = true
				p = q
			} else if len(has) != 64 {
				t.Fatalf("Let(%+v, %d): error %d, and %d are let", p, port, e, len(has))
			}
			if p.Base != base {
				t.Fatalf("Base is %d, and was %d", p.Base, base)
			}
			frees(t, p, 64-len(has))
		}
	}
}

// P12.2: with a port that is let and ended again all is as it was.
func TestEndUndoesLet(t *testing.T) {
	for _, taken := range someTaken() {
		for want := 1020; want < 1092 && taken != all; want++ {
			p, port, _ := ports.Let(of(1024, taken), want)
			ends(t, p, port, taken)
		}
	}
}

// P2: what is answered hangs on what was handed in, not on what was asked ahead of it.
func TestEveryCallAnswersTheSameAgain(t *testing.T) {
	type answer struct {
		check, let, end, free api.Errno
		with, without         api.Ports
		port, many            int
	}
	bases, takens := append(wrongBases(), 64, 1024, 65472), someTaken()
	ask := func(i int) (a answer) {
		p := of(bases[i%len(bases)], takens[i%len(takens)])
		port := p.Base + i%71 - 3
		a.check = ports.Check(p)
		a.with, a.port, a.let = ports.Let(p, port)
		a.without, a.end = ports.End(p, port)
		a.many, a.free = ports.Free(p)
		return a
	}
	first := make([]answer, 5000)
	for i := range first {
		first[i] = ask(i)
	}
	for i := len(first) - 1; i >= 0; i-- {
		if again := ask(i); again != first[i] {
			t.Errorf("call %d told %+v, and %+v when it is asked again", i, first[i], again)
		}
	}
}
