package sum_test

import (
	"strings"
	"testing"

	"customshouse/sum"
)

// remainder works Add out another way: end-around sums are remainders by
// 65535, told as 65535 instead of 0 unless all that was added is 0.
func remainder(from uint16, s string) uint16 {
	total := uint64(from)
	for i := range len(s) {
		if i%2 == 0 {
			total += uint64(s[i]) * 256
		} else {
			total += uint64(s[i])
		}
	}
	if total == 0 {
		return 0
	}
	return uint16((total-1)%65535 + 1)
}

func bytesOf(n uint16) string {
	return string([]byte{byte(n >> 8), byte(n)})
}

// edges are the words at which adding goes around, and their neighbours.
func edges() []uint16 {
	return []uint16{0, 1, 2, 0xff, 0x100, 0x1234, 0x7fff, 0x8000, 0x8001, 0xff00, 0xfffd, 0xfffe, 0xffff}
}

func texts() []string {
	list := []string{
		"", "\x00", "\x01", "\xff", "\x00\x00", "\x00\x00\x00", "\x00\x01", "\x01\x00", "\xff\xff",
		"\xff\xff\x00", "\xff\xff\x00\x01", "\xff\xff\xff\xff", "\xff\xff\xff", "\x80\x00\x80\x00",
		"\x80\x00\x7f\xff", "\x00\x01\xf2\x03\xf4\xf5\xf6\xf7", "not \xc3( in utf-8 \xff\xfe",
		strings.Repeat("\xff", 65535), strings.Repeat("\xff", 65536), strings.Repeat("\x00", 65535),
	}
	n := uint32(1)
	for long := range 70 {
		s := make([]byte, long)
		for i := range s {
			n = n*1664525 + 1013904223
			s[i] = byte(n >> 24)
		}
		list = append(list, string(s))
	}
	return list
}

// P1.1, and example 1 of the document.
func TestAddOfKnownTexts(t *testing.T) {
	for _, c := range []struct {
		from uint16
		s    string
		want uint16
	}{
		{0, "", 0},
		{7, "", 7},
		{0xffff, "", 0xffff},
		{0, "\x12\x34", 0x1234},
		{0, "\x12", 0x1200},
		{0, "\x12\x34\x56", 0x6834},
		{0, "\x00\x01\xf2\x03\xf4\xf5\xf6\xf7", 0xddf2},
		{0xfffe, "\x00\x01", 0xffff},
		{0xffff, "\x00\x00", 0xffff},
		{0xffff, "\x00\x01", 1},
		{1, "\xff\xff", 1},
		{0xffff, "\xff\xff", 0xffff},
		{0x8000, "\x80\x00", 1},
		{0xff00, "\x01", 1},
		{0, strings.Repeat("\xff", 65536), 0xffff},
		{0, strings.Repeat("\x00", 65536), 0},
	} {
		if got := sum.Add(c.from, c.s); got != c.want {
			t.Errorf("Add(%#x, %.20q of %d bytes) = %#x, want %#x", c.from, c.s, len(c.s), got, c.want)
		}
	}
}

// P1.1: each text from each start, held against a sum that is made another way.
func TestAddIsEndAround(t *testing.T) {
	for _, from := range edges() {
		for _, s := range texts() {
			if got, want := sum.Add(from, s), remainder(from, s); got != want {
				t.Errorf("Add(%#x, %.20q of %d bytes) = %#x, want %#x", from, s, len(s), got, want)
			}
		}
	}
}

// P1.1: every word on every edge.
func TestAddOfEveryWord(t *testing.T) {
	for _, from := range edges() {
		for n := range 65536 {
			s := bytesOf(uint16(n))
			if got, want := sum.Add(from, s), remainder(from, s); got != want {
				t.Fatalf("Add(%#x, %q) = %#x, want %#x", from, s, got, want)
			}
		}
	}
}

// P1.1: words are added one by one, so a text may be added in two steps at an even place.
func TestAddInSteps(t *testing.T) {
	for _, s := range texts() {
		for cut := 0; cut <= len(s) && cut < 80; cut += 2 {
			if got, want := sum.Add(sum.Add(5, s[:cut]), s[cut:]), sum.Add(5, s); got != want {
				t.Errorf("%.20q of %d bytes, cut at %d: %#x, want %#x", s, len(s), cut, got, want)
			}
		}
	}
}

// P1.1, and example 1 of the document.
func TestOf(t *testing.T) {
	for _, c := range []struct {
		s    string
		want uint16
	}{
		{"", 0xffff},
		{"\x00", 0xffff},
		{"\xff\xff", 0},
		{"\xff", 0x00ff},
		{"\x00\x01\xf2\x03\xf4\xf5\xf6\xf7", 0x220d},
	} {
		if got := sum.Of(c.s); got != c.want {
			t.Errorf("Of(%q) = %#x, want %#x", c.s, got, c.want)
		}
	}
	for _, s := range texts() {
		if got, want := sum.Of(s), 65535-remainder(0, s); got != want {
			t.Errorf("Of(%.20q of %d bytes) = %#x, want %#x", s, len(s), got, want)
		}
	}
}

// P1.1.
func TestRight(t *testing.T) {
	for _, c := range []struct {
		s    string
		want bool
	}{
		{"", false},
		{"\x00", false},
		{"\x00\x00", false},
		{"\xff", false},
		{"\xff\xff", true},
		{"\xff\xfe", false},
		{"\xff\xfe\x00\x01", true},
		{"\xff\x00\x00\xff", true},
		{"\x00\xff\xff", true},
		{"\xff\xff\x00\x01", false},
		{"\xff\xff\xff\xff", true},
	} {
		if got := sum.Right(c.s); got != c.want {
			t.Errorf("Right(%q) = %v", c.s, got)
		}
	}
}

// P1.1: a text with its check is right, and with any other word it isn't.
func TestRightOfChecked(t *testing.T) {
	for _, s := range texts() {
		if len(s)%2 == 1 {
			s += "\x00"
		}
		check := sum.Of(s)
		if !sum.Right(s + bytesOf(check)) {
			t.Errorf("%.20q of %d bytes is not right with its check %#x", s, len(s), check)
		}
		// 1 to 65534 off: 65535 off would be the same sum again.
		for _, off := range []uint16{1, 2, 0x100, 0x8000, 0xfffe} {
			other := uint16((uint32(check) + uint32(off)) % 65535)
			if sum.Right(s + bytesOf(other)) {
				t.Errorf("%.20q of %d bytes is right with %#x, its check is %#x", s, len(s), other, check)
			}
		}
	}
}

// P1.2.
func TestFixOfKnownWords(t *testing.T) {
	for _, c := range []struct{ check, old, now, want uint16 }{
		{0xdd2f, 0x5555, 0x3285, 0},
		{0, 0, 0, 0},
		{0xffff, 0, 0, 0},
		{0xffff, 0xffff, 0, 0xffff},
		{0xffff, 0, 1, 0xfffe},
		{0xffff, 0xffff, 0xffff, 0},
		{0, 0xffff, 0, 0},
		{0, 1, 2, 0xfffe},
		{0, 2, 1, 1},
		{0x220d, 0xf203, 0xf204, 0x220c},
		{0xedcb, 0x1234, 0, 0},
	} {
		if got := sum.Fix(c.check, c.old, c.now); got != c.want {
			t.Errorf("Fix(%#x, %#x, %#x) = %#x, want %#x", c.check, c.old, c.now, got, c.want)
		}
	}
}

// P1.2: the words of the promise, on every edge.
func TestFixOfEdges(t *testing.T) {
	for _, check := range edges() {
		for _, old := range edges() {
			for _, now := range edges() {
				words := bytesOf(65535-check) + bytesOf(65535-old) + bytesOf(now)
				if got, want := sum.Fix(check, old, now), 65535-remainder(0, words); got != want {
					t.Errorf("Fix(%#x, %#x, %#x) = %#x, want %#x", check, old, now, got, want)
				}
			}
		}
	}
}

// P1.2: a check that is mended is the one that is made anew, for each word of a text.
func TestFixIsCheckMadeAnew(t *testing.T) {
	const s = "\x00\x01\xf2\x03\xf4\xf5\xf6\xf7\xff\xff\x00\x00"
	for at := 0; at < len(s); at += 2 {
		old := uint16(s[at])<<8 | uint16(s[at+1])
		for n := range 65536 {
			now := uint16(n)
			anew := sum.Of(s[:at] + bytesOf(now) + s[at+2:])
			if got := sum.Fix(sum.Of(s), old, now); got != anew {
				t.Fatalf("word at %d, now %#x: %#x, want %#x", at, now, got, anew)
			}
		}
	}
}

// What is written is right, however often words are changed in between.
func TestFixAgainAndAgain(t *testing.T) {
	words := []uint16{0x4500, 0x0073, 0, 0x4000, 0x4011, 0xc0a8}
	text := func() string {
		s := ""
		for _, w := range words {
			s += bytesOf(w)
		}
		return s
	}
	check := sum.Of(text())
	n := uint32(3)
	for range 2000 {
		n = n*1664525 + 1013904223
		// The first word stays: of a text that is nothing but zeros the sum has no other name.
		at, now := 1+int(n>>8)%(len(words)-1), uint16(n>>16)
		check = sum.Fix(check, words[at], now)
		words[at] = now
		if s := text(); check != sum.Of(s) || !sum.Right(s+bytesOf(check)) {
			t.Fatalf("%x: check %#x, want %#x", words, check, sum.Of(s))
		}
	}
}

// P1: each call answers, whatever it is given.
func TestEveryCallAnswers(t *testing.T) {
	defer func() {
		if r := recover(); r != nil {
			t.Fatalf("panic: %v", r)
		}
	}()
	for high := range 256 {
		sum.Of(string([]byte{byte(high)}))
		for low := range 256 {
			s := string([]byte{byte(high), byte(low)})
			for _, w := range edges() {
				sum.Add(w, s)
				sum.Fix(w, uint16(high), uint16(low))
			}
			sum.Right(s)
		}
	}
	long := strings.Repeat("\xa5\x5a\xff", 1<<20)
	sum.Add(65535, long)
	sum.Of(long)
	sum.Right(long)
}

// P2: nothing is kept from call to call, and what is handed in stays as it was.
func TestNothingIsKept(t *testing.T) {
	type answer struct {
		add, of, fix uint16
		right        bool
	}
	ask := func(s string) answer {
		return answer{sum.Add(9, s), sum.Of(s), sum.Fix(0x1234, 0xfffe, uint16(len(s))), sum.Right(s)}
	}
	list := texts()
	first := make([]answer, len(list))
	for i, s := range list {
		first[i] = ask(s)
	}
	for i := len(list) - 1; i >= 0; i-- {
		if again := ask(list[i]); again != first[i] {
			t.Errorf("text %d: first %v, then %v", i, first[i], again)
		}
	}
	for i, s := range texts() {
		if list[i] != s {
			t.Errorf("text %d was changed", i)
		}
	}
}
