package serial_test

import (
	"math"
	"strings"
	"testing"

	"customshouse/serial"
)

const (
	most  = math.MaxUint32
	half  = 1 << 31
	round = 1 << 32
)

// edges are the numbers at which the promises turn, and their neighbours.
func edges() []uint32 {
	return []uint32{
		0, 1, 2, 3, 5, 6, 7, 100, 1<<16 - 1, 1 << 16, half - 3, half - 2, half - 1, half, half + 1, half + 2, half + 3,
		0x12345678, 0xfedcba98, most - 100, most - 6, most - 5, most - 4, most - 3, most - 2, most - 1, most,
	}
}

// wayTo works a way out by its words, in numbers that don't go round.
func wayTo(a, b uint32) int64 {
	w := int64(b) - int64(a)
	if w < 0 {
		w += round
	}
	return w
}

// overlap holds rows against each other on a line, with the second one laid a round earlier, as it is, and a round later.
func overlap(a, n, b, m uint32) bool {
	for _, turn := range []int64{-round, 0, round} {
		low := max(int64(a), int64(b)+turn)
		high := min(int64(a)+int64(n), int64(b)+turn+int64(m))
		if low < high {
			return true
		}
	}
	return false
}

// rowOf looks at the bytes one by one.
func rowOf(at uint32, data string, from, size uint32) (uint32, string) {
	bestAt, best, start := from, "", 0
	for i := 0; i <= len(data); i++ {
		x := uint32((int64(at) + int64(i)) % round)
		if i < len(data) && wayTo(from, x) < int64(size) {
			continue
		}
		if i-start > len(best) {
			bestAt, best = uint32((int64(at)+int64(start))%round), data[start:i]
		}
		start = i + 1
	}
	return bestAt, best
}

// random gives numbers that are the same in each run.
func random(n *uint32) uint32 {
	*n = *n*1664525 + 1013904223
	high := *n
	*n = *n*1664525 + 1013904223
	return high&0xffff0000 | *n>>16
}

// P7.1, and example 7 of the document.
func TestLess(t *testing.T) {
	for _, c := range []struct {
		a, b uint32
		want bool
	}{
		{0, 0, false},
		{5, 5, false},
		{most, most, false},
		{half, half, false},
		{0, 1, true},
		{1, 0, false},
		{most, 0, true},
		{0, most, false},
		{most - 15, 5, true},
		{5, most - 15, false},
		{0, half - 1, true},
		{0, half, false},
		{0, half + 1, false},
		{half - 1, 0, false},
		{half, 0, false},
		{half + 1, 0, true},
		{1, half, true},
		{half, 1, false},
		{7, half + 6, true},
		{7, half + 7, false},
		{7, half + 8, false},
		{most, half - 2, true},
		{most, half - 1, false},
		{half, most, true},
		{half - 1, most, false},
		{half - 2, most, false},
	} {
		if got := serial.Less(c.a, c.b); got != c.want {
			t.Errorf("Less(%d, %d) = %t", c.a, c.b, got)
		}
	}
}

// P7.1: of two numbers one is less, but where they are the same, or half of all numbers apart.
func TestLessByTheWay(t *testing.T) {
	ask := func(a, b uint32) {
		w := wayTo(a, b)
		got, back := serial.Less(a, b), serial.Less(b, a)
		if got != (w >= 1 && w <= half-1) {
			t.Errorf("Less(%d, %d) = %t", a, b, got)
		}
		if one := got != back; one == (w == 0 || w == half) {
			t.Errorf("Less of %d and %d: %t, and %t the other way", a, b, got, back)
		}
	}
	for _, a := range edges() {
		for _, b := range edges() {
			ask(a, b)
			ask(a, a+b)
		}
	}
	n := uint32(3)
	for range 100000 {
		ask(random(&n), random(&n))
	}
}

// P7.1.
func TestWithin(t *testing.T) {
	for _, c := range []struct {
		x, from, size uint32
		want          bool
	}{
		{0, 0, 0, false},
		{5, 5, 0, false},
		{5, 4, 0, false},
		{most, most, 0, false},
		{5, 5, 1, true},
		{4, 5, 1, false},
		{6, 5, 1, false},
		{6, 5, 2, true},
		{7, 5, 2, false},
		{5, 5, most, true},
		{4, 5, most, false},
		{3, 5, most, true},
		{3, 5, most - 1, false},
		{2, 5, most - 1, true},
		{most, 0, most, false},
		{most - 1, 0, most, true},
		{0, most, 1, false},
		{0, most, 2, true},
		{1, most, 2, false},
		{most, most - 1, 3, true},
		{0, most - 1, 3, true},
		{1, most - 1, 3, false},
		{half, 0, half, false},
		{half, 0, half + 1, true},
		{half - 1, 0, half, true},
		{0, half, half, false},
		{0, half, half + 1, true},
		{0, 1, half, false},
	} {
		if got := serial.Within(c.x, c.from, c.size); got != c.want {
			t.Errorf("Within(%d, %d, %d) = %t", c.x, c.from, c.size, got)
		}
	}
}

// P7.1: Within, by the way's words.
func TestWithinByTheWay(t *testing.T) {
	ask := func(x, from, size uint32) {
		if got := serial.Within(x, from, size); got != (wayTo(from, x) < int64(size)) {
			t.Errorf("Within(%d, %d, %d) = %t", x, from, size, got)
		}
	}
	for _, x := range edges() {
		for _, from := range edges() {
			for _, size := range edges() {
				ask(x, from, size)
				ask(from+size-1, from, size)
				ask(from+size, from, size)
			}
		}
	}
	n := uint32(5)
	for range 100000 {
		ask(random(&n), random(&n), random(&n))
	}
}

// P7.1.
func TestMeets(t *testing.T) {
	for _, c := range []struct {
		a, n, b, m uint32
		want       bool
	}{
		{0, 0, 0, 0, false},
		{0, 0, 0, 5, false},
		{0, 5, 0, 0, false},
		{0, 5, 3, 0, false},
		{3, 0, 0, 5, false},
		{7, 0, 0, most, false},
		{0, most, 7, 0, false},
		{7, 1, 7, 1, true},
		{7, 1, 8, 1, false},
		{8, 1, 7, 1, false},
		{0, 5, 5, 5, false},
		{0, 6, 5, 5, true},
		{5, 5, 0, 5, false},
		{5, 5, 0, 6, true},
		{0, 100, 40, 3, true},
		{40, 3, 0, 100, true},
		{most, 1, 0, 1, false},
		{most, 2, 0, 1, true},
		{0, 1, most, 1, false},
		{0, 1, most, 2, true},
		{most - 2, 5, 1, 1, true},
		{most - 2, 5, 2, 1, false},
		{0, most, most, 1, false},
		{0, most, most - 1, 1, true},
		{0, most, most, 2, true},
		{most, 1, 0, most, false},
		{0, most, 1, most, true},
		{0, half, half, half, false},
		{0, half, half, half + 1, true},
		{0, half + 1, half, half, true},
		{half, half, 0, half, false},
	} {
		if got := serial.Meets(c.a, c.n, c.b, c.m); got != c.want {
			t.Errorf("Meets(%d, %d, %d, %d) = %t", c.a, c.n, c.b, c.m, got)
		}
	}
}

// P7.1: Meets, worked out on a line.
func TestMeetsOnALine(t *testing.T) {
	ask := func(a, n, b, m uint32) {
		want := overlap(a, n, b, m)
		if got := serial.Meets(a, n, b, m); got != want {
			t.Errorf("Meets(%d, %d, %d, %d) = %t", a, n, b, m, got)
		}
	}
	for _, a := range edges() {
		for _, n := range edges() {
			for _, b := range edges() {
				for _, m := range edges() {
					ask(a, n, b, m)
				}
				// Rows that only just meet, and rows that only just don't.
				for near := range uint32(3) {
					ask(a, n, a+n+near-1, b)
					ask(a, n, a-b+near-1, b)
				}
			}
		}
	}
	n := uint32(7)
	for i := range 100000 {
		ask(random(&n), random(&n)>>(i%32), random(&n), random(&n)>>(i%29))
	}
}

// P7.1: Meets, with all numbers of short rows looked at one by one.
func TestMeetsOneByOne(t *testing.T) {
	for _, a := range []uint32{0, 9, half - 4, most - 4, most} {
		for apart := range uint32(20) {
			b := a + apart - 10
			for n := range uint32(9) {
				for m := range uint32(9) {
					want := false
					for i := range n {
						for j := range m {
							want = want || a+i == b+j
						}
					}
					if got := serial.Meets(a, n, b, m); got != want {
						t.Errorf("Meets(%d, %d, %d, %d) = %t", a, n, b, m, got)
					}
				}
			}
		}
	}
}

// P7.2.
func TestTrim(t *testing.T) {
	for _, c := range []struct {
		at         uint32
		data       string
		from, size uint32
		first      uint32
		left       string
	}{
		// All of it, its beginning, its end, its middle.
		{10, "abcdef", 10, 6, 10, "abcdef"},
		{10, "abcdef", 3, 100, 10, "abcdef"},
		{10, "abcdef", 3, 10, 10, "abc"},
		{10, "abcdef", 10, 3, 10, "abc"},
		{10, "abcdef", 13, 3, 13, "def"},
		{10, "abcdef", 13, 100, 13, "def"},
		{10, "abcdef", 12, 2, 12, "cd"},
		{10, "abcdef", 15, 1, 15, "f"},
		{10, "abcdef", 9, 2, 10, "a"},
		// Nothing of it.
		{10, "abcdef", 16, 5, 16, ""},
		{10, "abcdef", 5, 5, 5, ""},
		{10, "abcdef", 12, 0, 12, ""},
		{10, "abcdef", 10, 0, 10, ""},
		{10, "abc", 20, 5, 20, ""},
		{10, "abc", half + 10, half, half + 10, ""},
		{10, "", 10, 5, 10, ""},
		{10, "", 8, 5, 8, ""},
		{10, "", 99, most, 99, ""},
		{0, "", 0, 0, 0, ""},
		// Behind 2^32 - 1 stands 0.
		{most, "abc", 0, 9, 0, "bc"},
		{most, "abc", most, 2, most, "ab"},
		{most, "abc", most, 9, most, "abc"},
		{most - 1, "abcdef", most, 4, most, "bcde"},
		{most - 1, "abcdef", most - 9, 10, most - 1, "ab"},
		{most - 1, "abcdef", most - 9, 11, most - 1, "abc"},
		{0, "abc", most, 2, 0, "a"},
		{0, "abc", most - 5, most, 0, "abc"},
		// Out at one end, and in again at the other: the longer row.
		{10, "abcdef", 13, most, 13, "def"},
		{10, "abcdef", 12, most, 12, "cdef"},
		{10, "abcdef", 11, most, 11, "bcdef"},
		{10, "abcdef", 10, most, 10, "abcdef"},
		{10, "abcdef", 14, most, 10, "abc"},
		{10, "abcdef", 15, most, 10, "abcd"},
		{10, "abcdef", 16, most, 10, "abcde"},
		{10, "abcdef", 17, most, 10, "abcdef"},
		{10, "abcdefgh", 15, most - 3, 15, "fgh"},
		{most - 1, "abcdef", 1, most, 1, "def"},
		{most - 1, "abcdef", 2, most, most - 1, "abc"},
		// Two rows that are as long: the one that begins earlier in data.
		{10, "abcde", 13, most, 10, "ab"},
		{10, "abc", 12, most, 10, "a"},
		{10, "abcdef", 14, most - 1, 10, "ab"},
		{10, "abcd", 13, most - 1, 10, "a"},
		{most - 1, "abcde", 1, most, most - 1, "ab"},
		{most, "abc", 1, most, most, "a"},
		// Bytes, not signs.
		{7, "\xc3\xa4\x00\xff\xfe", 8, 3, 8, "\xa4\x00\xff"},
	} {
		if a, s := serial.Trim(c.at, c.data, c.from, c.size); a != c.first || s != c.left {
			t.Errorf("Trim(%d, %q, %d, %d) = %d, %q, want %d, %q", c.at, c.data, c.from, c.size, a, s, c.first, c.left)
		}
	}
}

// trims says that Trim answers as looking at the bytes one by one does.
func trims(t *testing.T, at uint32, data string, from, size uint32) {
	t.Helper()
	first, left := rowOf(at, data, from, size)
	if a, s := serial.Trim(at, data, from, size); a != first || s != left {
		t.Errorf("Trim(%d, %.30q of %d bytes, %d, %d) = %d, %.30q of %d bytes, want %d, %.30q of %d bytes",
			at, data, len(data), from, size, a, s, len(s), first, left, len(left))
	}
}

// P7.2: short texts, with every window around them that is narrow, or that leaves little out.
func TestTrimOneByOne(t *testing.T) {
	const letters = "abcdefghi"
	for _, at := range []uint32{0, 1, 77, half - 4, half, most - 12, most - 8, most - 4, most - 1, most} {
		for long := range len(letters) + 1 {
			for apart := range uint32(28) {
				from := at + apart - 13
				for size := range uint32(15) {
					trims(t, at, letters[:long], from, size)
					trims(t, at, letters[:long], from, most-size)
					trims(t, at, letters[:long], from, half-7+size)
				}
			}
		}
	}
}

// P7.2: at the edges of the numbers, and all over.
func TestTrimAllOver(t *testing.T) {
	for _, at := range edges() {
		for _, from := range edges() {
			for _, size := range edges() {
				trims(t, at, "abcdefghijkl", from, size)
			}
		}
	}
	n := uint32(9)
	bytes := make([]byte, 300)
	for i := range bytes {
		bytes[i] = byte(random(&n))
	}
	for i := range 50000 {
		at, size := random(&n), random(&n)%400
		from := at + random(&n)%800 - 400
		if i%2 > 0 {
			size = -size
		}
		trims(t, at, string(bytes[:random(&n)%301]), from, size)
	}
}

// P7.2: long texts, those of more bytes than 16 bits tell among them.
func TestTrimOfLongTexts(t *testing.T) {
	data := strings.Repeat("0123456789", 1<<17)
	for _, at := range []uint32{0, 1 << 20, half - 1<<19, most - 1<<19, most} {
		for _, apart := range []uint32{0, 1, 1 << 16, 1 << 19, 655360, 1 << 20, 10 << 17, most, most - 65535} {
			for _, size := range []uint32{0, 1, 65535, 65536, 1 << 20, half, most - 1<<20, most - 65536, most - 1, most} {
				trims(t, at, data, at+apart, size)
			}
		}
	}
}

// P7.2: what is told is within, and one byte more on either side of it is not.
func TestTrimTellsWhatIsWithin(t *testing.T) {
	const data = "abcdefghijklmnopqrstuvwxyz"
	n := uint32(13)
	for range 20000 {
		at, size := random(&n), random(&n)%30
		from := at + random(&n)%60 - 30
		first, left := serial.Trim(at, data, from, size)
		if left == "" {
			if first != from || serial.Meets(at, uint32(len(data)), from, size) {
				t.Errorf("Trim(%d, %d, %d) = %d, and no byte", at, from, size, first)
			}
			continue
		}
		skip, end := first-at, first-at+uint32(len(left))
		if int(end) > len(data) || data[skip:end] != left {
			t.Fatalf("Trim(%d, %d, %d) = %d, %q", at, from, size, first, left)
		}
		for i := range uint32(len(data)) {
			if serial.Within(at+i, from, size) != (i >= skip && i < end) {
				t.Errorf("Trim(%d, %d, %d) = %d, %q, and byte %d", at, from, size, first, left, i)
			}
		}
	}
}

// P1, P2: each call answers, whatever it is given, and the same again when it is asked again.
func TestEveryCallAnswersTheSameAgain(t *testing.T) {
	type answer struct {
		less, within, meets bool
		at                  uint32
		data                string
	}
	list := []string{"", "a", "\x00\xff", strings.Repeat("xyz", 50), strings.Repeat("\x80", 70000)}
	ask := func(i int) (a answer) {
		n := uint32(i)
		k, l, m, o := random(&n), random(&n), random(&n), random(&n)
		if i%2 > 0 {
			all := edges()
			k, l, m, o = all[k%uint32(len(all))], all[l%uint32(len(all))], all[m%uint32(len(all))], all[o%uint32(len(all))]
		}
		a.less, a.within, a.meets = serial.Less(k, l), serial.Within(k, l, m), serial.Meets(k, l, m, o)
		a.at, a.data = serial.Trim(k, list[i%len(list)], l, m)
		return a
	}
	first := make([]answer, 20000)
	for i := range first {
		first[i] = ask(i)
	}
	for i := len(first) - 1; i >= 0; i-- {
		if ask(i) != first[i] {
			t.Errorf("call %d is answered otherwise when it is asked again", i)
		}
	}
}
