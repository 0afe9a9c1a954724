package ip_test

import (
	"fmt"
	"math"
	"strings"
	"testing"

	"customshouse/api"
	"customshouse/ip"
	"customshouse/sum"
)

const (
	from = 0xc0a80001
	to   = 0xc0a800c7
	ends = "\xc0\xa8\x00\x01\xc0\xa8\x00\xc7"
)

// random gives bytes that are the same in each run.
func random(n *uint32) byte {
	*n = *n*1664525 + 1013904223
	return byte(*n >> 24)
}

func randomText(n *uint32, size int) string {
	b := make([]byte, size)
	for i := range b {
		b[i] = random(n)
	}
	return string(b)
}

func long(n int) string { return strings.Repeat("\xa5", n) }

func word(n int) string { return string([]byte{byte(n >> 8), byte(n)}) }

func packet(change func(p *api.Packet)) api.Packet {
	p := api.Packet{Tos: 3, Id: 0x1234, Start: 5, Life: 64, Proto: 17, From: from, To: to, Data: "data"}
	change(&p)
	return p
}

// checked puts the right CHECK into the first size bytes of s.
func checked(s string, size int) string {
	bare := s[:10] + "\x00\x00" + s[12:]
	return s[:10] + word(int(sum.Of(bare[:size]))) + s[12:]
}

// put gives s with other bytes at a place, and with the right CHECK of its first 20 bytes.
func put(s string, at int, other string) string {
	return checked(s[:at]+other+s[at+len(other):], 20)
}

func written(t *testing.T, p api.Packet) string {
	t.Helper()
	s, e := ip.Write(p)
	if e != api.OK {
		t.Fatalf("Write(%.80v) tells %d", fmt.Sprint(p), e)
	}
	return s
}

// P3.1, P3.2, and example 3 of the document: packets and their bytes, each read from the other.
func TestPacketsAndTheirBytes(t *testing.T) {
	for _, c := range []struct {
		p api.Packet
		s string
	}{
		{
			api.Packet{Whole: true, Life: 64, Proto: 17, From: from, To: to, Data: strings.Repeat("\x00", 95)},
			"\x45\x00\x00\x73\x00\x00\x40\x00\x40\x11\xb8\x61" + ends + strings.Repeat("\x00", 95),
		},
		{api.Packet{}, "\x45\x00\x00\x14\x00\x00\x00\x00\x00\x00\xba\xeb" + strings.Repeat("\x00", 8)},
		{
			api.Packet{Tos: 255, Id: 65535, More: true, Start: 8191, Life: 255, Proto: 255, From: math.MaxUint32, To: math.MaxUint32},
			"\x45\xff\x00\x14\xff\xff\x3f\xff\xff\xff\x79\xed\xff\xff\xff\xff\xff\xff\xff\xff",
		},
		{
			api.Packet{Tos: 1, Id: 0x0203, Start: 0x0405, Life: 6, Proto: 7, From: 0x08090a0b, To: 0x0c0d0e0f, Options: "\x10\x11\x12\x13", Data: "x"},
			"\x46\x01\x00\x19\x02\x03\x04\x05\x06\x07\x5f\x82\x08\x09\x0a\x0b\x0c\x0d\x0e\x0f\x10\x11\x12\x13x",
		},
	} {
		if s, e := ip.Write(c.p); s != c.s || e != api.OK {
			t.Errorf("Write(%v) = %x, %d, want %x", c.p, s, e, c.s)
		}
		if p, e := ip.Read(c.s); p != c.p || e != api.OK {
			t.Errorf("Read(%x) = %v, %d, want %v", c.s, p, e, c.p)
		}
	}
}

// P3.1: each field at its bounds and around them, in the bytes that the promise names.
func TestEachField(t *testing.T) {
	for _, c := range []struct {
		name  string
		at    int
		bytes string
		set   func(p *api.Packet)
	}{
		{"Tos", 1, "\x00", func(p *api.Packet) { p.Tos = 0 }},
		{"Tos", 1, "\xff", func(p *api.Packet) { p.Tos = 255 }},
		{"all", 2, "\x00\x14", func(p *api.Packet) { p.Data = "" }},
		{"all", 2, "\xff\xff", func(p *api.Packet) { p.Data = long(65515) }},
		{"all", 2, "\x00\x3c", func(p *api.Packet) { p.Data, p.Options = "", long(40) }},
		{"all", 2, "\xff\xff", func(p *api.Packet) { p.Data, p.Options = long(65475), long(40) }},
		{"Id", 4, "\x00\x00", func(p *api.Packet) { p.Id = 0 }},
		{"Id", 4, "\xff\xff", func(p *api.Packet) { p.Id = 65535 }},
		{"Id", 4, "\x01\x02", func(p *api.Packet) { p.Id = 258 }},
		{"neither", 6, "\x00\x05", func(p *api.Packet) {}},
		{"nothing", 6, "\x00\x00", func(p *api.Packet) { p.Start = 0 }},
		{"Whole", 6, "\x40\x00", func(p *api.Packet) { p.Whole, p.Start = true, 0 }},
		{"More", 6, "\x20\x00", func(p *api.Packet) { p.More, p.Start = true, 0 }},
		{"More", 6, "\x3f\xff", func(p *api.Packet) { p.More, p.Start = true, 8191 }},
		{"Start", 6, "\x1f\xff", func(p *api.Packet) { p.Start = 8191 }},
		{"Start", 6, "\x01\x02", func(p *api.Packet) { p.Start = 258 }},
		{"Life", 8, "\x00", func(p *api.Packet) { p.Life = 0 }},
		{"Life", 8, "\xff", func(p *api.Packet) { p.Life = 255 }},
		{"Proto", 9, "\x00", func(p *api.Packet) { p.Proto = 0 }},
		{"Proto", 9, "\xff", func(p *api.Packet) { p.Proto = 255 }},
		{"From", 12, "\x01\x02\x03\x04", func(p *api.Packet) { p.From = 0x01020304 }},
		{"From", 12, "\xff\xff\xff\xff", func(p *api.Packet) { p.From = math.MaxUint32 }},
		{"To", 16, "\x01\x02\x03\x04", func(p *api.Packet) { p.To = 0x01020304 }},
		{"To", 16, "\xff\xff\xff\xff", func(p *api.Packet) { p.To = math.MaxUint32 }},
		{"Options", 20, "abcddata", func(p *api.Packet) { p.Options = "abcd" }},
	} {
		p := packet(c.set)
		s := written(t, p)
		if s[c.at:c.at+len(c.bytes)] != c.bytes {
			t.Errorf("%s: %x, want %x at %d", c.name, s[:20], c.bytes, c.at)
		}
		if got, e := ip.Read(s); got != p || e != api.OK {
			t.Errorf("%s: read as %.80v, %d", c.name, fmt.Sprint(got), e)
		}
	}
}

// P3.1: all numbers of bytes of Options from none to more than there may be.
func TestOptionsOfEachLength(t *testing.T) {
	for n := range 100 {
		p := packet(func(p *api.Packet) { p.Options = long(n) })
		s, e := ip.Write(p)
		if n > 40 || n%4 != 0 {
			if s != "" || e != api.ErrArg {
				t.Errorf("%d bytes of Options: %x, %d", n, s, e)
			}
			continue
		}
		if e != api.OK || int(s[0]) != 64+5+n/4 || s[2:4] != word(24+n) || s[20:] != long(n)+"data" {
			t.Errorf("%d bytes of Options: %x, %d", n, s, e)
		}
		if !sum.Right(s[:20+n]) || s != checked(s, 20+n) {
			t.Errorf("%d bytes of Options: CHECK of %x is wrong", n, s)
		}
		if got, e := ip.Read(s); got != p || e != api.OK {
			t.Errorf("%d bytes of Options: read as %v, %d", n, got, e)
		}
	}
}

// P3.1: CHECK is of the bytes ahead of Data alone.
func TestCheckLeavesDataOut(t *testing.T) {
	n := uint32(11)
	first := written(t, packet(func(p *api.Packet) { p.Data = long(30) }))
	for range 100 {
		s := written(t, packet(func(p *api.Packet) { p.Data = randomText(&n, 30) }))
		if s[:20] != first[:20] {
			t.Errorf("%x and %x have other heads", s, first)
		}
	}
	for at := 20; at < len(first); at++ {
		if _, e := ip.Read(first[:at] + "\x00" + first[at+1:]); e != api.OK {
			t.Errorf("another byte of Data at %d: %d", at, e)
		}
	}
}

// P3.1: what can't be written, and of several errors the one that is told first.
func TestWriteOfWrongPackets(t *testing.T) {
	numbers := []struct {
		name string
		most int
		set  func(p *api.Packet, n int)
	}{
		{"Tos", 255, func(p *api.Packet, n int) { p.Tos = n }},
		{"Life", 255, func(p *api.Packet, n int) { p.Life = n }},
		{"Proto", 255, func(p *api.Packet, n int) { p.Proto = n }},
		{"Id", 65535, func(p *api.Packet, n int) { p.Id = n }},
		{"Start", 8191, func(p *api.Packet, n int) { p.Start = n }},
	}
	for _, c := range numbers {
		for _, n := range []int{-1, c.most + 1, -c.most, 1 << 16, 1 << 32, 1<<32 + 1, math.MinInt, math.MaxInt} {
			p := packet(func(p *api.Packet) { c.set(p, n) })
			if s, e := ip.Write(p); s != "" || e != api.ErrArg {
				t.Errorf("%s %d: %x, %d", c.name, n, s, e)
			}
			p.Whole, p.More, p.Data = true, true, long(65536)
			if s, e := ip.Write(p); s != "" || e != api.ErrArg {
				t.Errorf("%s %d, and more that is wrong: %.40x, %d", c.name, n, s, e)
			}
		}
	}
	for _, c := range []struct {
		set  func(p *api.Packet)
		want api.Errno
	}{
		{func(p *api.Packet) { p.Options = "x" }, api.ErrArg},
		{func(p *api.Packet) { p.Options = long(44) }, api.ErrArg},
		{func(p *api.Packet) { p.Options = long(1 << 20) }, api.ErrArg},
		{func(p *api.Packet) { p.Options, p.Whole, p.Data = "x", true, long(65536) }, api.ErrArg},
		{func(p *api.Packet) { p.Whole = true }, api.ErrForm},
		{func(p *api.Packet) { p.Whole, p.Start = true, 8191 }, api.ErrForm},
		{func(p *api.Packet) { p.Whole, p.More, p.Start = true, true, 0 }, api.ErrForm},
		{func(p *api.Packet) { p.Whole, p.More = true, true }, api.ErrForm},
		{func(p *api.Packet) { p.Whole, p.Data = true, long(65536) }, api.ErrForm},
		{func(p *api.Packet) { p.Data = long(65516) }, api.ErrLarge},
		{func(p *api.Packet) { p.Data = long(1 << 20) }, api.ErrLarge},
		{func(p *api.Packet) { p.Data, p.Options = long(65512), "abcd" }, api.ErrLarge},
		{func(p *api.Packet) { p.Data, p.Options = long(65476), long(40) }, api.ErrLarge},
		{func(p *api.Packet) { p.Data, p.Whole, p.Start = long(65516), true, 0 }, api.ErrLarge},
	} {
		p := packet(c.set)
		if s, e := ip.Write(p); s != "" || e != c.want {
			t.Errorf("Write(%.80v) = %.40x, %d, want %d", fmt.Sprint(p), s, e, c.want)
		}
	}
}

// P3.2: what can't be read, and of several errors the one that is told first.
func TestReadOfWrongBytes(t *testing.T) {
	s := written(t, packet(func(p *api.Packet) { p.Data = long(100) }))
	wide := written(t, packet(func(p *api.Packet) { p.Options, p.Data = long(40), long(100) }))
	bare := written(t, packet(func(p *api.Packet) { p.Data = "" }))
	for _, c := range []struct {
		name string
		s    string
		want api.Errno
	}{
		{"nothing", "", api.ErrShort},
		{"one byte", "\x45", api.ErrShort},
		{"19 bytes of zeros", strings.Repeat("\x00", 19), api.ErrShort},
		{"20 bytes of zeros", strings.Repeat("\x00", 20), api.ErrForm},
		{"fewer than the word says", s[:119], api.ErrShort},
		{"fewer than L says", put(wide, 2, word(20))[:59], api.ErrShort},
		{"fewer than L says, of a bare one", put(bare, 0, "\x46"), api.ErrShort},
		{"fewer than the word says, of a wrong first byte", "\x55" + s[1:119], api.ErrShort},
		{"fewer than the word says, of a wrong bit", put(s, 6, "\x80")[:119], api.ErrShort},
		{"fewer than the word says, of a wrong sum", s[:10] + "\x00\x00" + s[12:119], api.ErrShort},
		{"a word of 65535", put(s, 2, "\xff\xff"), api.ErrShort},
		{"first byte 68", put(s, 0, "\x44"), api.ErrForm},
		{"first byte 64", put(s, 0, "\x40"), api.ErrForm},
		{"first byte 80", put(s, 0, "\x50"), api.ErrForm},
		{"first byte 5", put(s, 0, "\x05"), api.ErrForm},
		{"first byte 101", put(s, 0, "\x65"), api.ErrForm},
		{"first byte 197", put(s, 0, "\xc5"), api.ErrForm},
		{"first byte 80 of a bare one", put(bare, 0, "\x50"), api.ErrForm},
		{"first byte 101 of a bare one", put(bare, 0, "\x65"), api.ErrForm},
		{"the word is 19", put(s, 2, word(19)), api.ErrForm},
		{"the word is 0", put(s, 2, word(0)), api.ErrForm},
		{"the word is less than L says", checked(wide[:2]+word(59)+wide[4:], 60), api.ErrForm},
		{"the bit 32768", put(s, 6, "\x80\x05"), api.ErrForm},
		{"the bit 32768 alone", put(s, 6, "\x80\x00"), api.ErrForm},
		{"the bit 32768 of a whole one", put(s, 6, "\xc0\x00"), api.ErrForm},
		{"whole, and more", put(s, 6, "\x60\x00"), api.ErrForm},
		{"whole, and a start", put(s, 6, "\x40\x01"), api.ErrForm},
		{"whole, and a start above", put(s, 6, "\x50\x00"), api.ErrForm},
		{"whole, more, and a start", put(s, 6, "\x7f\xff"), api.ErrForm},
		{"a wrong first byte and sum", "\x44" + s[1:], api.ErrForm},
		{"a wrong word and sum", s[:2] + word(19) + s[4:], api.ErrForm},
		{"a wrong bit and sum", s[:6] + "\x80" + s[7:], api.ErrForm},
		{"whole, more and a wrong sum", s[:6] + "\x60\x00" + s[8:], api.ErrForm},
		{"a wrong sum", s[:10] + "\x00\x00" + s[12:], api.ErrSum},
		{"a wrong sum of options", wide[:59] + "\x00" + wide[60:], api.ErrSum},
		{"a sum without the options", put(wide, 8, "\x07"), api.ErrSum},
	} {
		if p, e := ip.Read(c.s); p != (api.Packet{}) || e != c.want {
			t.Errorf("%s: Read(%.40x of %d bytes) = %.80v, %d, want %d", c.name, c.s, len(c.s), fmt.Sprint(p), e, c.want)
		}
	}
}

// P3.2: every first byte, with all bytes that any of them could ask for.
func TestReadOfEveryFirstByte(t *testing.T) {
	s := written(t, packet(func(p *api.Packet) { p.Data = long(1000) }))
	for n := range 256 {
		head := 4 * (n - 64)
		if n < 69 || n > 79 {
			if p, e := ip.Read(put(s, 0, string([]byte{byte(n)}))); p != (api.Packet{}) || e != api.ErrForm {
				t.Errorf("first byte %d: %.80v, %d", n, fmt.Sprint(p), e)
			}
			continue
		}
		p, e := ip.Read(checked(string([]byte{byte(n)})+s[1:], head))
		if e != api.OK || p.Options != long(head-20) || p.Data != long(1020-head) {
			t.Errorf("first byte %d: %.80v, %d", n, fmt.Sprint(p), e)
		}
	}
}

// P3.2: each number of bytes from none on, and bytes behind the packet.
func TestReadOfEachLength(t *testing.T) {
	p := packet(func(p *api.Packet) { p.Options, p.Data = "abcdefgh", "123456789" })
	s := written(t, p)
	for n := range len(s) {
		if got, e := ip.Read(s[:n]); got != (api.Packet{}) || e != api.ErrShort {
			t.Errorf("%d bytes of %d: %v, %d", n, len(s), got, e)
		}
	}
	for _, behind := range []string{"", "x", "\x00", "xyz", s, long(65536), long(1 << 20)} {
		if got, e := ip.Read(s + behind); got != p || e != api.OK {
			t.Errorf("%d bytes behind: %.80v, %d", len(behind), fmt.Sprint(got), e)
		}
	}
}

// P3.2: every word behind Id.
func TestReadOfEveryPieceWord(t *testing.T) {
	s := written(t, packet(func(p *api.Packet) {}))
	for n := range 65536 {
		whole, more, start := n&16384 != 0, n&8192 != 0, n&8191
		p, e := ip.Read(put(s, 6, word(n)))
		if n >= 32768 || whole && (more || start != 0) {
			if p != (api.Packet{}) || e != api.ErrForm {
				t.Errorf("word %#x: %v, %d", n, p, e)
			}
			continue
		}
		want := packet(func(p *api.Packet) { p.Whole, p.More, p.Start = whole, more, start })
		if p != want || e != api.OK {
			t.Errorf("word %#x: %v, %d", n, p, e)
		}
	}
}

// P3.2: every CHECK; of a sum that is 65535 already both names of nothing are right.
func TestReadOfEveryCheck(t *testing.T) {
	s := written(t, packet(func(p *api.Packet) {}))
	full := written(t, packet(func(p *api.Packet) { p.Id += int(sum.Of(s[:10] + "\x00\x00" + s[12:20])) }))
	if full[10:12] != "\x00\x00" {
		t.Fatalf("CHECK of %x isn't 0", full)
	}
	for _, s := range []string{s, full} {
		for n := range 65536 {
			other := s[:10] + word(n) + s[12:]
			want := api.ErrSum
			if sum.Right(other[:20]) {
				want = api.OK
			}
			if _, e := ip.Read(other); e != want {
				t.Errorf("Read(%x) tells %d, want %d", other, e, want)
			}
		}
	}
	if p, e := ip.Read(full[:10] + "\xff\xff" + full[12:]); p.From != from || e != api.OK {
		t.Errorf("CHECK of 65535 in the place of 0: %v, %d", p, e)
	}
}

// P3.1, P3.2: whatever is written is read as it was.
func TestWrittenAndReadAgain(t *testing.T) {
	n := uint32(1)
	number := func(most int) int {
		return (int(random(&n))<<16 | int(random(&n))<<8 | int(random(&n))) % (most + 1)
	}
	for i := range 5000 {
		p := api.Packet{Tos: number(255), Id: number(65535), Life: number(255), Proto: number(255)}
		p.From, p.To = uint32(number(1<<24))*251, uint32(number(1<<24))*253
		p.Options, p.Data = randomText(&n, 4*number(10)), randomText(&n, number(200))
		switch i % 3 {
		case 0:
			p.Whole = true
		case 1:
			p.More = true
			fallthrough
		case 2:
			p.Start = number(8191)
		}
		s, e := ip.Write(p)
		head := 20 + len(p.Options)
		if e != api.OK || len(s) != head+len(p.Data) || !sum.Right(s[:head]) || s[head:] != p.Data {
			t.Fatalf("Write(%v) = %x, %d", p, s, e)
		}
		if got, e := ip.Read(s + p.Data); got != p || e != api.OK {
			t.Fatalf("%v is read again as %v, %d", p, got, e)
		}
	}
}

// P3.3: every Life and every Proto; nothing but Life and CHECK is another.
func TestHop(t *testing.T) {
	for n := range 256 {
		for _, options := range []string{"", "abcd", long(40)} {
			p := packet(func(p *api.Packet) { p.Life, p.Proto, p.Options = n, (n*7+3)%256, options })
			s := written(t, p)
			h, e := ip.Hop(s + "behind")
			if n < 2 {
				if h != "" || e != api.ErrNone {
					t.Errorf("Life %d: %x, %d", n, h, e)
				}
				continue
			}
			p.Life--
			if h != written(t, p) || e != api.OK {
				t.Errorf("Life %d: %x, %d, want %x", n, h, e, written(t, p))
			}
		}
	}
}

// P3.3: CHECK is what sum.Fix makes of the one that was there, also where that is 0 or 65535.
func TestHopFixes(t *testing.T) {
	n := uint32(5)
	for range 5000 {
		p := packet(func(p *api.Packet) {
			p.Id, p.Life, p.Proto = int(random(&n))<<8|int(random(&n)), 2+int(random(&n))%254, int(random(&n))
		})
		bare := written(t, p)
		// An Id with which the sum is 65535 without a CHECK.
		p.Id = (p.Id + int(bare[10])<<8 + int(bare[11])) % 65535
		s := written(t, p)
		for _, check := range []string{s[10:12], "\x00\x00", "\xff\xff"} {
			s = s[:10] + check + s[12:]
			if !sum.Right(s[:20]) {
				continue
			}
			old := uint16(p.Life)<<8 | uint16(p.Proto)
			fixed := sum.Fix(uint16(check[0])<<8|uint16(check[1]), old, old-256)
			want := s[:8] + string([]byte{byte(p.Life - 1), byte(p.Proto)}) + word(int(fixed)) + s[12:]
			if h, e := ip.Hop(s); h != want || e != api.OK {
				t.Fatalf("Hop(%x) = %x, %d, want %x", s, h, e, want)
			}
		}
	}
}

// P3.3: a packet goes as many hops as its Life less one, and is right at each.
func TestHopAgainAndAgain(t *testing.T) {
	p := packet(func(p *api.Packet) { p.Life, p.Options = 255, "abcd" })
	s := written(t, p)
	for life := 254; life >= 1; life-- {
		h, e := ip.Hop(s)
		if e != api.OK || !sum.Right(h[:24]) {
			t.Fatalf("to Life %d: %x, %d", life, h, e)
		}
		p.Life = life
		if got, e := ip.Read(h); got != p || e != api.OK {
			t.Fatalf("to Life %d: %v, %d", life, got, e)
		}
		s = h
	}
	if h, e := ip.Hop(s); h != "" || e != api.ErrNone {
		t.Errorf("beyond Life 1: %x, %d", h, e)
	}
}

// P3.3: the errors of Read, ahead of that of Life.
func TestHopOfWrongBytes(t *testing.T) {
	s := written(t, packet(func(p *api.Packet) { p.Life = 1 }))
	for _, c := range []struct {
		s    string
		want api.Errno
	}{
		{"", api.ErrShort},
		{s[:19], api.ErrShort},
		{s[:23], api.ErrShort},
		{"\x44" + s[1:], api.ErrForm},
		{put(s, 6, "\x80\x00"), api.ErrForm},
		{put(s, 6, "\x60\x00"), api.ErrForm},
		{s[:10] + "\x00\x00" + s[12:], api.ErrSum},
		{s[:8] + "\x40" + s[9:], api.ErrSum},
		{s, api.ErrNone},
		{s + "behind", api.ErrNone},
	} {
		if h, e := ip.Hop(c.s); h != "" || e != c.want {
			t.Errorf("Hop(%x) = %x, %d, want %d", c.s, h, e, c.want)
		}
	}
}

// P3.4: addresses and their texts, each from the other.
func TestShowAndParse(t *testing.T) {
	for _, c := range []struct {
		a uint32
		s string
	}{
		{0, "0.0.0.0"},
		{1, "0.0.0.1"},
		{math.MaxUint32, "255.255.255.255"},
		{0x01020304, "1.2.3.4"},
		{0xc0a80001, "192.168.0.1"},
		{0x80000000, "128.0.0.0"},
		{0x0a64ff09, "10.100.255.9"},
	} {
		if s := ip.Show(c.a); s != c.s {
			t.Errorf("Show(%#x) = %q, want %q", c.a, s, c.s)
		}
		if a, e := ip.Parse(c.s); a != c.a || e != api.OK {
			t.Errorf("Parse(%q) = %#x, %d", c.s, a, e)
		}
	}
	for at := range 4 {
		for n := range 256 {
			b := [4]byte{12, 34, 156, 78}
			b[at] = byte(n)
			a := uint32(b[0])<<24 | uint32(b[1])<<16 | uint32(b[2])<<8 | uint32(b[3])
			want := fmt.Sprintf("%d.%d.%d.%d", b[0], b[1], b[2], b[3])
			if s := ip.Show(a); s != want {
				t.Errorf("Show(%#x) = %q, want %q", a, s, want)
			}
			if got, e := ip.Parse(want); got != a || e != api.OK {
				t.Errorf("Parse(%q) = %#x, %d", want, got, e)
			}
		}
	}
}

// P3.4: texts that Show doesn't show.
func TestParseOfWrongTexts(t *testing.T) {
	for _, s := range []string{
		"", ".", "...", "....", "1", "1.2.3", "1.2.3.", ".1.2.3", "1..2.3", "1.2..3", ".1.2.3.4", "1.2.3.4.", "1.2.3.4.5",
		"1.2.3.04", "01.2.3.4", "1.00.3.4", "1.2.000.4", "1.2.3.-0", "-1.2.3.4", "+1.2.3.4", "1.2.3.+4",
		"256.0.0.0", "0.256.0.0", "0.0.256.0", "0.0.0.256", "0.0.0.999", "0.0.0.1000", "0.0.0.65536",
		"0.0.0.4294967296", "0.0.0.18446744073709551616", "1.2.3.99999999", "255.255.255.2555", "255.255.255.255.",
		" 1.2.3.4", "1.2.3.4 ", "1.2. 3.4", "1.2.3.4\n", "1.2.3.4\x00", "1,2,3,4", "1:2:3:4", "a.b.c.d", "1.2.3.a",
		"0x1.2.3.4", "1.2.3.0x4", "1.2.3.1_0", "1.2.3.1e1", "1.2.3.4/8", "1.2.3.\xd9\xa1", "1.2.3.\xb2", "16909060",
		"\xff.2.3.4", strings.Repeat("1", 15), strings.Repeat(".", 15), strings.Repeat("1.", 1<<20), long(1 << 20),
		strings.Repeat("0", 100) + "1.2.3.4", "1.2.3.4" + strings.Repeat(".4", 100),
	} {
		if a, e := ip.Parse(s); a != 0 || e != api.ErrSyntax {
			t.Errorf("Parse(%.40q) = %#x, %d", s, a, e)
		}
	}
}

// P3.4: other bytes at every place: a text is read if, and only if, it is what Show shows.
func TestParseOfEveryByte(t *testing.T) {
	for _, good := range []string{"192.168.0.1", "1.2.3.4", "255.255.255.255", "10.20.30.40"} {
		for at := range len(good) {
			for n := range 256 {
				for _, s := range []string{
					good[:at] + string([]byte{byte(n)}) + good[at+1:],
					good[:at] + string([]byte{byte(n)}) + good[at:],
				} {
					a, e := ip.Parse(s)
					if e == api.OK && ip.Show(a) != s || e != api.OK && (e != api.ErrSyntax || a != 0) {
						t.Errorf("Parse(%q) = %#x, %d", s, a, e)
					}
				}
			}
		}
	}
}

// P1: each call answers, whatever it is given.
func TestEveryCallAnswers(t *testing.T) {
	n := uint32(7)
	good := written(t, packet(func(p *api.Packet) { p.Options, p.Data = long(8), long(30) }))
	for i := range 20000 {
		s := randomText(&n, i%80)
		if len(s) > 20 && i%3 > 0 {
			s = string([]byte{64 + s[0]%16, s[1], 0, s[3] % 90}) + s[4:]
		}
		if len(s) > 60 && i%3 == 2 {
			s = checked(s, 4*int(s[0]-64))
		}
		at := int(random(&n)) % len(good)
		for _, s := range []string{s, good[:at] + s, good[:at] + s[:len(s)/20] + good[at:]} {
			_, e := ip.Read(s)
			if h, e2 := ip.Hop(s); e != api.OK && (e2 != e || h != "") {
				t.Errorf("Read(%x) tells %d, Hop %d", s, e, e2)
			}
			ip.Parse(s)
		}
		ip.Show(n)
		ip.Write(api.Packet{Tos: int(n>>3) * (1 - i%3), Id: i * 13, Whole: i%2 == 0, More: i%5 == 0, Start: i, Options: s, Data: s})
	}
	huge := strings.Repeat("\x4f\x00", 1<<20)
	ip.Read(huge)
	ip.Hop(huge)
	ip.Parse(huge)
	ip.Write(api.Packet{Options: huge, Data: huge})
}

// P2: nothing is kept from call to call, and what is handed in stays as it was.
func TestNothingIsKept(t *testing.T) {
	type answer struct {
		p               api.Packet
		s, hopped, show string
		a               uint32
		e               [4]api.Errno
	}
	good := written(t, packet(func(p *api.Packet) {}))
	texts := []string{
		"", good, good[:22], good + "behind", "\x55" + good[1:], good[:10] + "\x00\x00" + good[12:], "192.168.0.1", "1.2.3.04",
		written(t, packet(func(p *api.Packet) { p.Life = 1 })), long(70000),
	}
	ask := func(i int) (a answer) {
		p := packet(func(p *api.Packet) { p.Whole, p.Start, p.Data = i%2 == 0, i/2%2, texts[i] })
		before := p
		a.p, a.e[0] = ip.Read(texts[i])
		a.s, a.e[1] = ip.Write(p)
		a.hopped, a.e[2] = ip.Hop(texts[i])
		a.a, a.e[3] = ip.Parse(texts[i])
		a.show = ip.Show(uint32(i) * 0x10203040)
		if p != before {
			t.Errorf("packet %d was changed", i)
		}
		return a
	}
	first := make([]answer, len(texts))
	for i := range texts {
		first[i] = ask(i)
	}
	for i := len(texts) - 1; i >= 0; i-- {
		if ask(i) != first[i] {
			t.Errorf("text %d is answered otherwise when it is asked again", i)
		}
	}
	if texts[1] != written(t, packet(func(p *api.Packet) {})) {
		t.Error("a text was changed")
	}
}
