package dgram_test

import (
	"fmt"
	"math"
	"strings"
	"testing"

	"customshouse/api"
	"customshouse/dgram"
	"customshouse/ip"
	"customshouse/sum"
)

const (
	from = 0xc0a80001
	to   = 0xc0a800c7
	ends = "\xc0\xa8\x00\x01\xc0\xa8\x00\xc7"
)

// random gives bytes that are the same in each run.
func random(n *uint32) byte {
	*n = *n*1664525 + 1013904223
	return byte(*n >> 24)
}

func randomText(n *uint32, size int) string {
	b := make([]byte, size)
	for i := range b {
		b[i] = random(n)
	}
	return string(b)
}

func long(n int) string { return strings.Repeat("\xa5", n) }

func zeros(n int) string { return strings.Repeat("\x00", n) }

func word(n int) string { return string([]byte{byte(n >> 8), byte(n)}) }

// put gives s with other bytes at a place.
func put(s string, at int, other string) string { return s[:at] + other + s[at+len(other):] }

// remainder works an end-around sum out another way than package sum: by division.
func remainder(s string) int {
	total := 0
	for i := range len(s) {
		if i%2 == 0 {
			total += int(s[i]) << 8
		} else {
			total += int(s[i])
		}
	}
	if total == 0 {
		return 0
	}
	return (total-1)%65535 + 1
}

// under gives the bytes that P5.1 asks for, made another way than Under.
func under(from, to uint32, proto, size int) string {
	return word(int(from>>16)) + word(int(from&65535)) + word(int(to>>16)) + word(int(to&65535)) + word(proto&255) + word(size&65535)
}

// letterText gives the bytes that P5.2 asks for, from its words.
func letterText(l api.Letter, from, to uint32) string {
	size := 8 + len(l.Data)
	bare := word(l.From) + word(l.To) + word(size)
	check := 65535 - remainder(under(from, to, 17, size)+bare+"\x00\x00"+l.Data)
	if check == 0 {
		check = 65535
	}
	return bare + word(check) + l.Data
}

// noteText gives the bytes that P5.3 asks for, from its words.
func noteText(n api.Note) string {
	kind, rest := string([]byte{byte(n.Kind), byte(n.Code)}), string(n.Rest[:])
	return kind + word(65535-remainder(kind+"\x00\x00"+rest+n.Data)) + rest + n.Data
}

func letter(change func(l *api.Letter)) api.Letter {
	l := api.Letter{From: 0x1234, To: 80, Data: "data"}
	change(&l)
	return l
}

func note(change func(n *api.Note)) api.Note {
	n := api.Note{Kind: 8, Code: 3, Rest: [4]byte{1, 2, 3, 4}, Data: "ping"}
	change(&n)
	return n
}

func short(v any) string { return fmt.Sprintf("%.80s", fmt.Sprint(v)) }

// letterGoes says that l is written as s, and that s is read as l.
func letterGoes(t *testing.T, l api.Letter, from, to uint32, s string) {
	t.Helper()
	if got, e := dgram.Write(l, from, to); got != s || e != api.OK {
		t.Errorf("Write(%s, %#x, %#x) = %.40x, %d, want %.40x", short(l), from, to, got, e, s)
	}
	if got, e := dgram.Read(s, from, to); got != l || e != api.OK {
		t.Errorf("Read(%.40x, %#x, %#x) = %s, %d, want %s", s, from, to, short(got), e, short(l))
	}
}

// noteGoes says that n is written as s, and that s is read as n.
func noteGoes(t *testing.T, n api.Note, s string) {
	t.Helper()
	if got, e := dgram.WriteNote(n); got != s || e != api.OK {
		t.Errorf("WriteNote(%s) = %.40x, %d, want %.40x", short(n), got, e, s)
	}
	if got, e := dgram.ReadNote(s); got != n || e != api.OK {
		t.Errorf("ReadNote(%.40x) = %s, %d, want %s", s, short(got), e, short(n))
	}
}

// P5.1: each byte of the twelve, and numbers of which only the lowest bits count.
func TestUnder(t *testing.T) {
	for _, c := range []struct {
		from, to    uint32
		proto, size int
		want        string
	}{
		{0, 0, 0, 0, zeros(12)},
		{0x01020304, 0x05060708, 9, 0x0a0b, "\x01\x02\x03\x04\x05\x06\x07\x08\x00\x09\x0a\x0b"},
		{from, to, 17, 10, ends + "\x00\x11\x00\x0a"},
		{to, from, 6, 20, "\xc0\xa8\x00\xc7\xc0\xa8\x00\x01\x00\x06\x00\x14"},
		{math.MaxUint32, 0, 255, 0, "\xff\xff\xff\xff\x00\x00\x00\x00\x00\xff\x00\x00"},
		{0, math.MaxUint32, 0, 65535, "\x00\x00\x00\x00\xff\xff\xff\xff\x00\x00\xff\xff"},
		{0, 0, 256, 65536, zeros(12)},
		{0, 0, 257, 65537, zeros(9) + "\x01\x00\x01"},
		{0, 0, 0x1234, 0x123456, zeros(9) + "\x34\x34\x56"},
		{0, 0, -1, -1, zeros(9) + "\xff\xff\xff"},
		{0, 0, -2, -2, zeros(9) + "\xfe\xff\xfe"},
		{0, 0, -256, -65536, zeros(12)},
		{0, 0, -239, -65526, zeros(9) + "\x11\x00\x0a"},
		{0, 0, math.MaxInt, math.MaxInt, zeros(9) + "\xff\xff\xff"},
		{0, 0, math.MinInt, math.MinInt, zeros(12)},
		{0, 0, 1<<32 + 17, 1<<32 + 300, zeros(9) + "\x11\x01\x2c"},
	} {
		if got := dgram.Under(c.from, c.to, c.proto, c.size); got != c.want {
			t.Errorf("Under(%#x, %#x, %d, %d) = %x, want %x", c.from, c.to, c.proto, c.size, got, c.want)
		}
	}
	for n := range 65536 {
		if got, want := dgram.Under(from, to, n, n), under(from, to, n, n); got != want {
			t.Fatalf("Under(.., %d, %d) = %x, want %x", n, n, got, want)
		}
	}
}

// P5.2, and example 5 of the document: letters whose bytes are written out here.
func TestLettersAndTheirBytes(t *testing.T) {
	for _, c := range []struct {
		l        api.Letter
		from, to uint32
		s        string
	}{
		{api.Letter{}, 0, 0, "\x00\x00\x00\x00\x00\x08\xff\xde"},
		{api.Letter{From: 1, To: 2, Data: "hi"}, 0, 0, "\x00\x01\x00\x02\x00\x0a\x97\x6ehi"},
		{api.Letter{From: 1, To: 2, Data: "h"}, 0, 0, "\x00\x01\x00\x02\x00\x09\x97\xd9h"},
		{api.Letter{From: 0x1234, To: 80, Data: "abc"}, 0x0a000001, 0x0a000002, "\x12\x34\x00\x50\x00\x0b\x14\xef" + "abc"},
		{api.Letter{From: 65535, To: 65535}, math.MaxUint32, math.MaxUint32, "\xff\xff\xff\xff\x00\x08\xff\xde"},
		{api.Letter{From: 0xffde}, 0, 0, "\xff\xde\x00\x00\x00\x08\xff\xff"},
		{api.Letter{To: 0xffde}, 0, 0, "\x00\x00\xff\xde\x00\x08\xff\xff"},
		{api.Letter{From: 0xffdd}, 0, 0, "\xff\xdd\x00\x00\x00\x08\x00\x01"},
		{api.Letter{From: 0xffdf}, 0, 0, "\xff\xdf\x00\x00\x00\x08\xff\xfe"},
	} {
		letterGoes(t, c.l, c.from, c.to, c.s)
	}
}

// P5.2: each field at its bounds and around them, in the bytes that the promise names.
func TestEachFieldOfALetter(t *testing.T) {
	for _, c := range []struct {
		at    int
		bytes string
		set   func(l *api.Letter)
	}{
		{0, "\x00\x00", func(l *api.Letter) { l.From = 0 }},
		{0, "\xff\xff", func(l *api.Letter) { l.From = 65535 }},
		{0, "\x01\x02", func(l *api.Letter) { l.From = 258 }},
		{2, "\x00\x00", func(l *api.Letter) { l.To = 0 }},
		{2, "\xff\xff", func(l *api.Letter) { l.To = 65535 }},
		{2, "\x01\x02", func(l *api.Letter) { l.To = 258 }},
		{4, "\x00\x08", func(l *api.Letter) { l.Data = "" }},
		{4, "\x00\x09", func(l *api.Letter) { l.Data = "\xff" }},
		{4, "\x01\x00", func(l *api.Letter) { l.Data = long(248) }},
		{4, "\xff\xea", func(l *api.Letter) { l.Data = long(65506) }},
		{4, "\xff\xeb", func(l *api.Letter) { l.Data = long(65507) }},
		{8, "\x00\xff", func(l *api.Letter) { l.Data = "\x00\xff" }},
	} {
		l := letter(c.set)
		letterGoes(t, l, from, to, letterText(l, from, to))
		if s, _ := dgram.Write(l, from, to); len(s) != 8+len(l.Data) || s[c.at:c.at+len(c.bytes)] != c.bytes {
			t.Errorf("Write(%s) = %.40x of %d bytes, want %x at %d", short(l), s, len(s), c.bytes, c.at)
		}
	}
}

// P5.2: letters of every size up to some, even and odd, between many addresses.
func TestLettersOfManySizes(t *testing.T) {
	n := uint32(1)
	for i := range 4000 {
		data := randomText(&n, i%300)
		l := api.Letter{From: int(random(&n)) << 8 >> (i % 9), To: int(random(&n)) * 257, Data: data}
		a, b := n, n*0x9e3779b1
		letterGoes(t, l, a, b, letterText(l, a, b))
	}
}

// P5.2: of the letters from every port just one has a CHECK that would be 0, and has 65535.
func TestCheckOfALetterIsNever0(t *testing.T) {
	would := 0
	for port := range 65536 {
		l := api.Letter{From: port, To: 7, Data: "odd"}
		s := letterText(l, from, to)
		letterGoes(t, l, from, to, s)
		if s[6:8] == "\xff\xff" {
			would++
		}
		if !sum.Right(dgram.Under(from, to, 17, len(s)) + s) {
			t.Errorf("from port %d: %x is not right", port, s)
		}
	}
	if would != 1 {
		t.Errorf("%d letters have a CHECK of 65535", would)
	}
}

// P5.2: what can't be written, and of several errors the one that is told first.
func TestWriteOfWrongLetters(t *testing.T) {
	for _, c := range []struct {
		set  func(l *api.Letter)
		want api.Errno
	}{
		{func(l *api.Letter) { l.From = -1 }, api.ErrArg},
		{func(l *api.Letter) { l.From = 65536 }, api.ErrArg},
		{func(l *api.Letter) { l.From = 1<<32 + 1 }, api.ErrArg},
		{func(l *api.Letter) { l.From = math.MinInt }, api.ErrArg},
		{func(l *api.Letter) { l.From = math.MaxInt }, api.ErrArg},
		{func(l *api.Letter) { l.To = -1 }, api.ErrArg},
		{func(l *api.Letter) { l.To = 65536 }, api.ErrArg},
		{func(l *api.Letter) { l.To = 1<<32 + 1 }, api.ErrArg},
		{func(l *api.Letter) { l.To = math.MinInt }, api.ErrArg},
		{func(l *api.Letter) { l.To = math.MaxInt }, api.ErrArg},
		{func(l *api.Letter) { l.From, l.To = -1, 65536 }, api.ErrArg},
		{func(l *api.Letter) { l.From, l.Data = 65536, long(65508) }, api.ErrArg},
		{func(l *api.Letter) { l.To, l.Data = -1, long(65508) }, api.ErrArg},
		{func(l *api.Letter) { l.Data = long(65508) }, api.ErrLarge},
		{func(l *api.Letter) { l.Data = long(65528) }, api.ErrLarge},
		{func(l *api.Letter) { l.Data = long(65536) }, api.ErrLarge},
		{func(l *api.Letter) { l.Data = long(1 << 20) }, api.ErrLarge},
	} {
		l := letter(c.set)
		if s, e := dgram.Write(l, from, to); s != "" || e != c.want {
			t.Errorf("Write(%s) = %.40x, %d, want %d", short(l), s, e, c.want)
		}
	}
}

// P5.2: what can't be read, and of several errors the one that is told first.
func TestReadOfWrongLetters(t *testing.T) {
	good := letterText(letter(func(l *api.Letter) {}), from, to)
	great := letterText(letter(func(l *api.Letter) { l.Data = long(65507) }), from, to)
	for _, c := range []struct {
		s    string
		want api.Errno
	}{
		{"", api.ErrShort},
		{"\x00", api.ErrShort},
		{zeros(7), api.ErrShort},
		{good[:7], api.ErrShort},
		{good[:8], api.ErrShort},
		{good[:11], api.ErrShort},
		{great[:65514], api.ErrShort},
		{put(good, 4, "\x00\x0d"), api.ErrShort},
		{put(good, 4, "\xff\xff"), api.ErrShort},
		{put(good, 4, "\xff\xec"), api.ErrShort},
		{put(good[:7], 4, "\x00\x07"), api.ErrShort},
		{put(good[:8], 4, "\x01\x00") + zeros(247), api.ErrShort},
		{zeros(8), api.ErrForm},
		{put(good, 4, "\x00\x00"), api.ErrForm},
		{put(good, 4, "\x00\x07"), api.ErrForm},
		{put(good[:8], 4, "\x00\x07"), api.ErrForm},
		{put(good, 4, "\x00\x07\x00\x00"), api.ErrForm},
		{put(great, 4, "\xff\xec") + "x", api.ErrForm},
		{put(great, 4, "\xff\xec\x00\x00") + "x", api.ErrForm},
		{put(great, 4, "\xff\xff") + long(20), api.ErrForm},
		{put(great, 4, "\xff\xff") + long(1<<20), api.ErrForm},
		{put(good, 6, "\xff\xff"), api.ErrSum},
		{put(good, 6, "\x00\x01"), api.ErrSum},
		{put(good, 6, "\x01\x00"), api.ErrSum},
		{put(good, 0, "\x12\x35"), api.ErrSum},
		{put(good, 2, "\x00\x51"), api.ErrSum},
		{put(good, 4, "\x00\x0b"), api.ErrSum},
		{put(good, 4, "\x00\x08"), api.ErrSum},
		{put(good, 11, "b"), api.ErrSum},
		{put(great, 65514, "b"), api.ErrSum},
	} {
		if l, e := dgram.Read(c.s, from, to); l != (api.Letter{}) || e != c.want {
			t.Errorf("Read(%.40x of %d bytes) = %s, %d, want %d", c.s, len(c.s), short(l), e, c.want)
		}
	}
}

// P5.2: a letter that is right under its addresses is not so under others.
func TestReadUnderOtherAddresses(t *testing.T) {
	l := letter(func(l *api.Letter) {})
	s := letterText(l, from, to)
	for bit := range 32 {
		for _, ends := range [][2]uint32{{from ^ 1<<bit, to}, {from, to ^ 1<<bit}} {
			if got, e := dgram.Read(s, ends[0], ends[1]); got != (api.Letter{}) || e != api.ErrSum {
				t.Errorf("Read(%x, %#x, %#x) = %v, %d", s, ends[0], ends[1], got, e)
			}
		}
	}
	if got, e := dgram.Read(s, to, from); got != l || e != api.OK {
		t.Errorf("the sum of both addresses is the same, and yet: %v, %d", got, e)
	}
}

// P5.2: each bit of a letter counts, but that with a CHECK of 0 none does.
func TestReadOfOtherBits(t *testing.T) {
	s := letterText(letter(func(l *api.Letter) { l.Data = "some data" }), from, to)
	for at := range len(s) {
		if at == 4 || at == 5 {
			continue
		}
		for bit := range 8 {
			other := put(s, at, string([]byte{s[at] ^ 1<<bit}))
			if l, e := dgram.Read(other, from, to); l != (api.Letter{}) || e != api.ErrSum {
				t.Errorf("bit %d of byte %d: %v, %d", bit, at, l, e)
			}
			if at == 6 || at == 7 {
				continue
			}
			other = put(other, 6, "\x00\x00")
			want := api.Letter{From: int(other[0])<<8 | int(other[1]), To: int(other[2])<<8 | int(other[3]), Data: other[8:]}
			if l, e := dgram.Read(other, from, to); l != want || e != api.OK {
				t.Errorf("bit %d of byte %d, CHECK 0: %v, %d", bit, at, l, e)
			}
		}
	}
}

// P5.2: of every CHECK a letter has one that is right, and 0.
func TestReadOfEveryCheck(t *testing.T) {
	l := api.Letter{From: 9, To: 10, Data: "abc"}
	s := letterText(l, from, to)
	for n := range 65536 {
		other := put(s, 6, word(n))
		got, e := dgram.Read(other, from, to)
		if other == s || n == 0 {
			if got != l || e != api.OK {
				t.Errorf("CHECK %d: %v, %d", n, got, e)
			}
		} else if got != (api.Letter{}) || e != api.ErrSum {
			t.Errorf("CHECK %d: %v, %d", n, got, e)
		}
	}
}

// P5.2: third words, all of those around the bounds, with more bytes than any of them says.
func TestReadOfManySizes(t *testing.T) {
	rest := long(65536)
	for n := range 65536 {
		if n > 300 && n < 65300 && n%97 != 0 {
			continue
		}
		l, e := dgram.Read("\x00\x01\x00\x02"+word(n)+"\x00\x00"+rest, from, to)
		if n < 8 || n > 65515 {
			if l != (api.Letter{}) || e != api.ErrForm {
				t.Errorf("size %d: %s, %d", n, short(l), e)
			}
		} else if l != (api.Letter{From: 1, To: 2, Data: rest[:n-8]}) || e != api.OK {
			t.Errorf("size %d: %s, %d", n, short(l), e)
		}
	}
}

// P5.2: bytes behind are left out, also out of the sum.
func TestReadLeavesOutWhatIsBehind(t *testing.T) {
	for _, size := range []int{0, 1, 2, 3, 4, 100, 65506, 65507} {
		l := letter(func(l *api.Letter) { l.Data = long(size) })
		s := letterText(l, from, to)
		for _, behind := range []string{"\x00", "x", "\xff\xff", "xyz", long(70000)} {
			if got, e := dgram.Read(s+behind, from, to); got != l || e != api.OK {
				t.Errorf("%d bytes behind %d of Data: %s, %d", len(behind), size, short(got), e)
			}
		}
	}
}

// P5.2: whatever is read is written again, and read as it was.
func TestLettersReadAndWrittenAgain(t *testing.T) {
	n := uint32(5)
	for i := range 3000 {
		s := randomText(&n, i%50)
		if len(s) >= 8 {
			s = put(s, 4, word(i%(len(s)+9)))
			if i%2 == 0 {
				s = put(s, 6, "\x00\x00")
			}
		}
		l, e := dgram.Read(s, from, to)
		if e != api.OK {
			if l != (api.Letter{}) {
				t.Errorf("Read(%x) = %v, %d", s, l, e)
			}
			continue
		}
		letterGoes(t, l, from, to, letterText(l, from, to))
	}
}

// P5.3: notes whose bytes are written out here.
func TestNotesAndTheirBytes(t *testing.T) {
	for _, c := range []struct {
		n api.Note
		s string
	}{
		{api.Note{}, "\x00\x00\xff\xff\x00\x00\x00\x00"},
		{api.Note{Data: zeros(5)}, "\x00\x00\xff\xff" + zeros(9)},
		{api.Note{Kind: 8, Rest: [4]byte{0, 1, 0, 2}}, "\x08\x00\xf7\xfc\x00\x01\x00\x02"},
		{api.Note{Kind: 8, Rest: [4]byte{0, 1, 0, 2}, Data: "x"}, "\x08\x00\x7f\xfc\x00\x01\x00\x02x"},
		{api.Note{Kind: 3, Code: 4, Rest: [4]byte{5, 6, 7, 8}, Data: "ab"}, "\x03\x04\x8f\x8b\x05\x06\x07\x08" + "ab"},
		{api.Note{Kind: 255, Code: 255}, "\xff\xff\x00\x00\x00\x00\x00\x00"},
		{api.Note{Rest: [4]byte{255, 255, 255, 255}}, "\x00\x00\x00\x00\xff\xff\xff\xff"},
		{api.Note{Kind: 255, Code: 255, Rest: [4]byte{255, 255, 255, 255}}, "\xff\xff\x00\x00\xff\xff\xff\xff"},
	} {
		noteGoes(t, c.n, c.s)
	}
}

// P5.3: each field at its bounds and around them, in the bytes that the promise names.
func TestEachFieldOfANote(t *testing.T) {
	for _, c := range []struct {
		at    int
		bytes string
		set   func(n *api.Note)
	}{
		{0, "\x00\x03", func(n *api.Note) { n.Kind = 0 }},
		{0, "\xff\x03", func(n *api.Note) { n.Kind = 255 }},
		{0, "\x08\x00", func(n *api.Note) { n.Code = 0 }},
		{0, "\x08\xff", func(n *api.Note) { n.Code = 255 }},
		{4, "\x00\x00\x00\x00", func(n *api.Note) { n.Rest = [4]byte{} }},
		{4, "\xff\xfe\x00\x01", func(n *api.Note) { n.Rest = [4]byte{255, 254, 0, 1} }},
		{8, "", func(n *api.Note) { n.Data = "" }},
		{8, "\x00", func(n *api.Note) { n.Data = "\x00" }},
		{8, "\xff\xff\xff", func(n *api.Note) { n.Data = "\xff\xff\xff" }},
		{8, "\xa5\xa5", func(n *api.Note) { n.Data = long(65506) }},
		{8, "\xa5\xa5", func(n *api.Note) { n.Data = long(65507) }},
	} {
		n := note(c.set)
		noteGoes(t, n, noteText(n))
		if s, _ := dgram.WriteNote(n); len(s) != 8+len(n.Data) || s[c.at:c.at+len(c.bytes)] != c.bytes {
			t.Errorf("WriteNote(%s) = %.40x of %d bytes, want %x at %d", short(n), s, len(s), c.bytes, c.at)
		}
	}
}

// P5.3: every Kind and Code, and Data of many sizes, even and odd: all of it is right.
func TestEveryKindAndCode(t *testing.T) {
	r := uint32(2)
	for kind := range 256 {
		for code := range 256 {
			n := api.Note{Kind: kind, Code: code, Rest: [4]byte{random(&r), random(&r), random(&r), random(&r)}}
			n.Data = randomText(&r, (kind+code)%40)
			s := noteText(n)
			noteGoes(t, n, s)
			if !sum.Right(s) {
				t.Errorf("%x is not right", s)
			}
		}
	}
}

// P5.3: what can't be written, and of several errors the one that is told first.
func TestWriteNoteOfWrongNotes(t *testing.T) {
	for _, c := range []struct {
		set  func(n *api.Note)
		want api.Errno
	}{
		{func(n *api.Note) { n.Kind = -1 }, api.ErrArg},
		{func(n *api.Note) { n.Kind = 256 }, api.ErrArg},
		{func(n *api.Note) { n.Kind = 1<<32 + 8 }, api.ErrArg},
		{func(n *api.Note) { n.Kind = math.MinInt }, api.ErrArg},
		{func(n *api.Note) { n.Kind = math.MaxInt }, api.ErrArg},
		{func(n *api.Note) { n.Code = -1 }, api.ErrArg},
		{func(n *api.Note) { n.Code = 256 }, api.ErrArg},
		{func(n *api.Note) { n.Code = 1<<32 + 8 }, api.ErrArg},
		{func(n *api.Note) { n.Code = math.MinInt }, api.ErrArg},
		{func(n *api.Note) { n.Code = math.MaxInt }, api.ErrArg},
		{func(n *api.Note) { n.Kind, n.Code = -1, 256 }, api.ErrArg},
		{func(n *api.Note) { n.Kind, n.Data = 256, long(65508) }, api.ErrArg},
		{func(n *api.Note) { n.Code, n.Data = -1, long(65508) }, api.ErrArg},
		{func(n *api.Note) { n.Data = long(65508) }, api.ErrLarge},
		{func(n *api.Note) { n.Data = long(65536) }, api.ErrLarge},
		{func(n *api.Note) { n.Data = long(1 << 20) }, api.ErrLarge},
	} {
		n := note(c.set)
		if s, e := dgram.WriteNote(n); s != "" || e != c.want {
			t.Errorf("WriteNote(%s) = %.40x, %d, want %d", short(n), s, e, c.want)
		}
	}
}

// P5.3: what can't be read, and of several errors the one that is told first.
func TestReadNoteOfWrongBytes(t *testing.T) {
	good := noteText(note(func(n *api.Note) {}))
	great := noteText(note(func(n *api.Note) { n.Data = long(65507) }))
	for _, c := range []struct {
		s    string
		want api.Errno
	}{
		{"", api.ErrShort},
		{"\xff\xff", api.ErrShort},
		{"\xff\xff\x00\x00\x00\x00\x00", api.ErrShort},
		{good[:7], api.ErrShort},
		// Right, but that there are too many.
		{great + "\x00", api.ErrLarge},
		{great + "x", api.ErrLarge},
		{great + long(20), api.ErrLarge},
		{zeros(65516), api.ErrLarge},
		{long(1 << 20), api.ErrLarge},
		{zeros(8), api.ErrSum},
		{zeros(65515), api.ErrSum},
		{good[:8], api.ErrSum},
		{good + "x", api.ErrSum},
		{put(good, 2, "\x00\x00"), api.ErrSum},
		{put(good, 2, "\xff\xff"), api.ErrSum},
		{put(great, 65514, "b"), api.ErrSum},
	} {
		if n, e := dgram.ReadNote(c.s); n != (api.Note{}) || e != c.want {
			t.Errorf("ReadNote(%.40x of %d bytes) = %s, %d, want %d", c.s, len(c.s), short(n), e, c.want)
		}
	}
}

// P5.3: each bit of a note counts; a CHECK of 0 is one like others.
func TestReadNoteOfOtherBits(t *testing.T) {
	s := noteText(note(func(n *api.Note) { n.Data = "some data" }))
	for at := range len(s) {
		for bit := range 8 {
			other := put(s, at, string([]byte{s[at] ^ 1<<bit}))
			if n, e := dgram.ReadNote(other); n != (api.Note{}) || e != api.ErrSum {
				t.Errorf("bit %d of byte %d: %v, %d", bit, at, n, e)
			}
		}
	}
	for n := range 65536 {
		other := put(s, 2, word(n))
		got, e := dgram.ReadNote(other)
		if (e == api.OK) != (other == s) || other != s && (e != api.ErrSum || got != (api.Note{})) {
			t.Errorf("CHECK %d: %v, %d", n, got, e)
		}
	}
}

// P5.3: both CHECKs are read that make a note right, where there are two.
func TestReadNoteOfBothChecks(t *testing.T) {
	want := api.Note{Kind: 255, Code: 255}
	for _, check := range []string{"\x00\x00", "\xff\xff"} {
		if n, e := dgram.ReadNote("\xff\xff" + check + zeros(4)); n != want || e != api.OK {
			t.Errorf("CHECK %x: %v, %d", check, n, e)
		}
	}
}

// The greatest letter and the greatest note are just as much as a packet carries.
func TestTheGreatestFillAPacket(t *testing.T) {
	s := letterText(letter(func(l *api.Letter) { l.Data = long(65507) }), from, to)
	p := api.Packet{Proto: 17, From: from, To: to, Data: s}
	if w, e := ip.Write(p); len(w) != api.MaxFrame || e != api.OK {
		t.Errorf("a packet of %d bytes, %d", len(w), e)
	}
	if got, e := dgram.Write(letter(func(l *api.Letter) { l.Data = long(65507) }), from, to); got != s || e != api.OK {
		t.Errorf("Write tells %d bytes, %d", len(got), e)
	}
	if got, e := dgram.WriteNote(note(func(n *api.Note) { n.Data = long(65507) })); len(got) != len(s) || e != api.OK {
		t.Errorf("WriteNote tells %d bytes, %d", len(got), e)
	}
}

// P1: each call answers, whatever it is given.
func TestEveryCallAnswers(t *testing.T) {
	n := uint32(7)
	for i := range 20000 {
		s := randomText(&n, i%60)
		if len(s) >= 8 && i%3 > 0 {
			s = put(s, 4, word(int(s[5]%70)))
		}
		a, b := n, n>>3
		dgram.Read(s, a, b)
		dgram.ReadNote(s)
		k := (int(n) - 1<<31) >> (i % 33)
		dgram.Under(a, b, k, k*k)
		dgram.Write(api.Letter{From: k, To: i * 7, Data: s}, a, b)
		dgram.WriteNote(api.Note{Kind: i % 300, Code: k, Data: s})
	}
	huge := strings.Repeat("\xff\xff", 1<<20)
	dgram.Read(huge, from, to)
	dgram.ReadNote(huge)
	dgram.Write(api.Letter{Data: huge}, from, to)
	dgram.WriteNote(api.Note{Data: huge})
}

// P2: nothing is kept from call to call, and what is handed in stays as it was.
func TestNothingIsKept(t *testing.T) {
	type answer struct {
		l           api.Letter
		n           api.Note
		s, w, under string
		e           [4]api.Errno
	}
	texts := func() []string {
		l, n := letterText(letter(func(l *api.Letter) {}), from, to), noteText(note(func(n *api.Note) {}))
		return []string{
			"", l, n, l[:9], l + "behind", n + "x", put(l, 6, "\x00\x00"), put(l, 6, "\xff\xff"), put(l, 4, "\x00\x07"), zeros(8), long(70000),
		}
	}
	list := texts()
	ask := func(i int) (a answer) {
		l := letter(func(l *api.Letter) { l.From, l.Data = 65536-i, list[i] })
		n := note(func(n *api.Note) { n.Kind, n.Rest, n.Data = 256-i, [4]byte{byte(i)}, list[i] })
		letterBefore, noteBefore := l, n
		a.l, a.e[0] = dgram.Read(list[i], from, to)
		a.n, a.e[1] = dgram.ReadNote(list[i])
		a.s, a.e[2] = dgram.Write(l, from, to)
		a.w, a.e[3] = dgram.WriteNote(n)
		a.under = dgram.Under(from, to, i, len(list[i]))
		if l != letterBefore || n != noteBefore {
			t.Errorf("letter or note %d was changed", i)
		}
		return a
	}
	first := make([]answer, len(list))
	for i := range list {
		first[i] = ask(i)
	}
	for i := len(list) - 1; i >= 0; i-- {
		if ask(i) != first[i] {
			t.Errorf("text %d is answered otherwise when it is asked again", i)
		}
	}
	for i, s := range texts() {
		if list[i] != s {
			t.Errorf("text %d was changed", i)
		}
	}
}
