package eth_test

import (
	"fmt"
	"math"
	"strings"
	"testing"

	"customshouse/api"
	"customshouse/eth"
)

const (
	toText   = "\x01\x02\x03\x04\x05\x06"
	fromText = "\xfa\xfb\xfc\xfd\xfe\xff"
	names    = toText + fromText
)

var (
	to   = api.Mac{1, 2, 3, 4, 5, 6}
	from = api.Mac{0xfa, 0xfb, 0xfc, 0xfd, 0xfe, 0xff}
)

func frame(vlan, kind int, data string) api.Frame {
	return api.Frame{To: to, From: from, Vlan: vlan, Type: kind, Data: data}
}

func long(n int) string { return strings.Repeat("\xa5", n) }

// random gives bytes that are the same in each run.
func random(n *uint32) byte {
	*n = *n*1664525 + 1013904223
	return byte(*n >> 24)
}

func randomText(n *uint32, size int) string {
	b := make([]byte, size)
	for i := range b {
		b[i] = random(n)
	}
	return string(b)
}

// P2.1: frames and their bytes, each read from the other.
func TestFramesAndTheirBytes(t *testing.T) {
	for _, c := range []struct {
		f api.Frame
		s string
	}{
		{frame(-1, 0x0800, "data"), names + "\x08\x00data"},
		{frame(-1, 0, ""), names + "\x00\x00"},
		{frame(-1, 65535, ""), names + "\xff\xff"},
		{frame(-1, 33023, "x"), names + "\x80\xffx"},
		{frame(-1, 33025, "x"), names + "\x81\x01x"},
		{frame(-1, 129, "x"), names + "\x00\x81x"},
		{frame(-1, 0x0800, "\x81\x00\xff\xff"), names + "\x08\x00\x81\x00\xff\xff"},
		{frame(0, 0, ""), names + "\x81\x00\x00\x00\x00\x00"},
		{frame(0, 0x0800, "data"), names + "\x81\x00\x00\x00\x08\x00data"},
		{frame(1, 0x0806, "\x00\xff"), names + "\x81\x00\x00\x01\x08\x06\x00\xff"},
		{frame(258, 0x86dd, "x"), names + "\x81\x00\x01\x02\x86\xddx"},
		{frame(4095, 65535, ""), names + "\x81\x00\x0f\xff\xff\xff"},
		{frame(7, 33024, ""), names + "\x81\x00\x00\x07\x81\x00"},
		{frame(7, 33024, "\xff\xff\x08\x00"), names + "\x81\x00\x00\x07\x81\x00\xff\xff\x08\x00"},
		{frame(-1, 5, long(65535)), names + "\x00\x05" + long(65535)},
		{frame(9, 5, long(65535)), names + "\x81\x00\x00\x09\x00\x05" + long(65535)},
		{api.Frame{Vlan: -1}, strings.Repeat("\x00", 14)},
		{api.Frame{To: from, From: to, Vlan: -1, Type: 1}, fromText + toText + "\x00\x01"},
		{api.Frame{To: api.Mac{0x81}, Vlan: -1}, "\x81" + strings.Repeat("\x00", 13)},
	} {
		if s, e := eth.Write(c.f); s != c.s || e != api.OK {
			t.Errorf("Write(%.80v) = %.40x, %d, want %.40x", fmt.Sprint(c.f), s, e, c.s)
		}
		if f, e := eth.Read(c.s); f != c.f || e != api.OK {
			t.Errorf("Read(%.40x) = %.80v, %d", c.s, fmt.Sprint(f), e)
		}
	}
}

// P2.1: what can't be written, and of several errors the one that is told first.
func TestWriteOfWrongFrames(t *testing.T) {
	for _, c := range []struct {
		f    api.Frame
		want api.Errno
	}{
		{frame(-2, 1, ""), api.ErrArg},
		{frame(4096, 1, ""), api.ErrArg},
		{frame(65536, 1, ""), api.ErrArg},
		{frame(math.MinInt, 1, ""), api.ErrArg},
		{frame(math.MaxInt, 1, ""), api.ErrArg},
		{frame(-1, -1, ""), api.ErrArg},
		{frame(-1, 65536, ""), api.ErrArg},
		{frame(-1, 65536+33024, ""), api.ErrArg},
		{frame(-1, math.MinInt, ""), api.ErrArg},
		{frame(-1, math.MaxInt, ""), api.ErrArg},
		{frame(0, -1, ""), api.ErrArg},
		{frame(4095, 65536, ""), api.ErrArg},
		{frame(-2, 33024, long(65536)), api.ErrArg},
		{frame(4096, 1, long(65536)), api.ErrArg},
		{frame(-1, -1, long(65536)), api.ErrArg},
		{frame(-1, 33024, ""), api.ErrForm},
		{frame(-1, 33024, "\x00\x01\x08\x00"), api.ErrForm},
		{frame(-1, 33024, long(65536)), api.ErrForm},
		{frame(-1, 1, long(65536)), api.ErrLarge},
		{frame(0, 1, long(65536)), api.ErrLarge},
		{frame(0, 33024, long(65536)), api.ErrLarge},
		{frame(-1, 1, long(1<<20)), api.ErrLarge},
	} {
		if s, e := eth.Write(c.f); s != "" || e != c.want {
			t.Errorf("Write(%.80v) = %.40x, %d, want %d", fmt.Sprint(c.f), s, e, c.want)
		}
	}
}

// P2.1: what can't be read, and of several errors the one that is told first.
func TestReadOfWrongBytes(t *testing.T) {
	for _, c := range []struct {
		s    string
		want api.Errno
	}{
		{"", api.ErrShort},
		{"\x81", api.ErrShort},
		{names, api.ErrShort},
		{names + "\x08", api.ErrShort},
		{names + "\x81", api.ErrShort},
		{names + "\x81\x00", api.ErrShort},
		{names + "\x81\x00\x00\x01", api.ErrShort},
		{names + "\x81\x00\x00\x01\x08", api.ErrShort},
		{names + "\x81\x00\xff\xff", api.ErrShort},
		{names + "\x81\x00\xff\xff\x08", api.ErrShort},
		{names + "\x81\x00\x10\x00\x08\x00", api.ErrForm},
		{names + "\x81\x00\xff\xff\x08\x00", api.ErrForm},
		{names + "\x81\x00\x81\x00\x08\x00", api.ErrForm},
		{names + "\x81\x00\x10\x00\x08\x00" + long(65536), api.ErrForm},
		{names + "\x08\x00" + long(65536), api.ErrLarge},
		{names + "\x81\x00\x0f\xff\x08\x00" + long(65536), api.ErrLarge},
		{names + "\x08\x00" + long(1<<20), api.ErrLarge},
	} {
		if f, e := eth.Read(c.s); f != (api.Frame{}) || e != c.want {
			t.Errorf("Read(%.40x of %d bytes) = %.80v, %d, want %d", c.s, len(c.s), fmt.Sprint(f), e, c.want)
		}
	}
}

// P2.1: each number of bytes from none on, with a tag and without.
func TestReadOfEachLength(t *testing.T) {
	bare := names + "\x08\x00" + long(10)
	tagged := names + "\x81\x00\x00\x05\x08\x00" + long(10)
	for n := range len(bare) + 1 {
		f, e := eth.Read(bare[:n])
		if n < 14 && (e != api.ErrShort || f != (api.Frame{})) {
			t.Errorf("%d bytes without a tag: %v, %d", n, f, e)
		}
		if n >= 14 && (e != api.OK || f != frame(-1, 0x0800, long(n-14))) {
			t.Errorf("%d bytes without a tag: %v, %d", n, f, e)
		}
	}
	for n := range len(tagged) + 1 {
		f, e := eth.Read(tagged[:n])
		if n < 18 && (e != api.ErrShort || f != (api.Frame{})) {
			t.Errorf("%d bytes with a tag: %v, %d", n, f, e)
		}
		if n >= 18 && (e != api.OK || f != frame(5, 0x0800, long(n-18))) {
			t.Errorf("%d bytes with a tag: %v, %d", n, f, e)
		}
	}
}

// P2.1: every Type and every Vlan, written and read again.
func TestEveryWord(t *testing.T) {
	for n := range 65536 {
		word := string([]byte{byte(n >> 8), byte(n)})
		bare := frame(-1, n, "abcd")
		s, e := eth.Write(bare)
		if n == 33024 {
			if s != "" || e != api.ErrForm {
				t.Errorf("Type %d without a tag: %x, %d", n, s, e)
			}
		} else if s != names+word+"abcd" || e != api.OK {
			t.Errorf("Type %d without a tag: %x, %d", n, s, e)
		} else if f, e := eth.Read(s); f != bare || e != api.OK {
			t.Errorf("Type %d without a tag is read as %v, %d", n, f, e)
		}

		tagged := frame(3, n, "")
		s, e = eth.Write(tagged)
		if s != names+"\x81\x00\x00\x03"+word || e != api.OK {
			t.Errorf("Type %d with a tag: %x, %d", n, s, e)
		}
		if f, e := eth.Read(s); f != tagged || e != api.OK {
			t.Errorf("Type %d with a tag is read as %v, %d", n, f, e)
		}

		s = names + "\x81\x00" + word + "\x08\x00"
		f, e := eth.Read(s)
		w, e2 := eth.Write(frame(n, 0x0800, ""))
		if n <= 4095 && (f != frame(n, 0x0800, "") || e != api.OK || w != s || e2 != api.OK) {
			t.Errorf("Vlan %d: %v, %d, %x, %d", n, f, e, w, e2)
		}
		if n > 4095 && (f != (api.Frame{}) || e != api.ErrForm || w != "" || e2 != api.ErrArg) {
			t.Errorf("Vlan %d: %v, %d, %x, %d", n, f, e, w, e2)
		}
	}
}

// P2.1: whatever is read is written as it was.
func TestReadAndWrittenAgain(t *testing.T) {
	n := uint32(1)
	for i := range 5000 {
		s := randomText(&n, i%60)
		if len(s) >= 16 && i%2 == 0 {
			s = s[:12] + "\x81\x00" + string([]byte{s[14] & 31, s[15]}) + s[16:]
		}
		f, e := eth.Read(s)
		if e != api.OK {
			if f != (api.Frame{}) {
				t.Errorf("Read(%x) = %v, %d", s, f, e)
			}
			continue
		}
		if w, e := eth.Write(f); w != s || e != api.OK {
			t.Errorf("%x is written again as %x, %d", s, w, e)
		}
	}
}

// P2.2: every first byte, and no other byte counts.
func TestMany(t *testing.T) {
	for n := range 256 {
		for _, rest := range []byte{0, 1, 254, 255} {
			m := api.Mac{byte(n), rest, rest, rest, rest, rest}
			if got := eth.Many(m); got != (n%2 == 1) {
				t.Errorf("Many(%v) = %v", m, got)
			}
		}
	}
}

// P2.2: addresses and their texts, each from the other.
func TestShowAndParse(t *testing.T) {
	for _, c := range []struct {
		m api.Mac
		s string
	}{
		{api.Mac{}, "00:00:00:00:00:00"},
		{api.Mac{255, 255, 255, 255, 255, 255}, "ff:ff:ff:ff:ff:ff"},
		{api.Mac{1, 2, 3, 4, 5, 6}, "01:02:03:04:05:06"},
		{api.Mac{0x10, 0x20, 0x30, 0x40, 0x50, 0x60}, "10:20:30:40:50:60"},
		{api.Mac{0x9a, 0xa9, 0x0f, 0xf0, 0x7b, 0xcd}, "9a:a9:0f:f0:7b:cd"},
	} {
		if s := eth.Show(c.m); s != c.s {
			t.Errorf("Show(%v) = %q, want %q", c.m, s, c.s)
		}
		if m, e := eth.Parse(c.s); m != c.m || e != api.OK {
			t.Errorf("Parse(%q) = %v, %d", c.s, m, e)
		}
	}
	for at := range 6 {
		for n := range 256 {
			m := api.Mac{0x12, 0x34, 0x56, 0x78, 0x9a, 0xbc}
			m[at] = byte(n)
			want := fmt.Sprintf("%02x:%02x:%02x:%02x:%02x:%02x", m[0], m[1], m[2], m[3], m[4], m[5])
			if s := eth.Show(m); s != want {
				t.Errorf("Show(%v) = %q, want %q", m, s, want)
			}
			if got, e := eth.Parse(want); got != m || e != api.OK {
				t.Errorf("Parse(%q) = %v, %d", want, got, e)
			}
		}
	}
}

// P2.2: texts that Show doesn't show.
func TestParseOfWrongTexts(t *testing.T) {
	for _, s := range []string{
		"", ":", ":::::", "0", "00", "00:00:00:00:00", "00:00:00:00:00:", "00:00:00:00:00:0",
		"00:00:00:00:00:000", "00:00:00:00:00:00:", "00:00:00:00:00:00:00", ":00:00:00:00:00:00",
		"000000000000", "00-00-00-00-00-00", "0:0:0:0:0:0", "0:00:00:00:00:000", "000:0:00:00:00:00",
		" 00:00:00:00:00:00", "00:00:00:00:00:00 ", "00:00:00:00:00:00\n", "00:00:00:00:00: 0",
		"00:00:00:00:00:+1", "00:00:00:00:00:0x", "FF:FF:FF:FF:FF:FF", "ff:ff:ff:ff:ff:fF", "0A:00:00:00:00:00",
		"gg:00:00:00:00:00", "00:00:00:00:00:0g", "0g:00:00:00:00:00", "00:00:00:00:00:g0",
		"00:00:00:00:00.00", "00;00:00:00:00:00", strings.Repeat(":", 17), strings.Repeat("0", 17),
		strings.Repeat("\x00", 17), strings.Repeat("\xff", 17), "00:00:00:00:00:\xc2\xb2", long(1 << 20),
	} {
		if m, e := eth.Parse(s); m != (api.Mac{}) || e != api.ErrSyntax {
			t.Errorf("Parse(%.40q) = %v, %d", s, m, e)
		}
	}
}

// P2.2: every byte at every place: it is read if, and only if, Show shows it so.
func TestParseOfEveryByte(t *testing.T) {
	const good = "12:34:56:78:9a:bc"
	for at := range len(good) {
		for n := range 256 {
			s := good[:at] + string([]byte{byte(n)}) + good[at+1:]
			fits := strings.IndexByte("0123456789abcdef", byte(n)) >= 0
			if at%3 == 2 {
				fits = n == ':'
			}
			m, e := eth.Parse(s)
			if fits && (e != api.OK || eth.Show(m) != s) {
				t.Errorf("Parse(%q) = %v, %d", s, m, e)
			}
			if !fits && (e != api.ErrSyntax || m != (api.Mac{})) {
				t.Errorf("Parse(%q) = %v, %d", s, m, e)
			}
		}
	}
}

// P1: each call answers, whatever it is given.
func TestEveryCallAnswers(t *testing.T) {
	n := uint32(7)
	for i := range 20000 {
		s := randomText(&n, i%40)
		eth.Read(s)
		eth.Parse(s)
		m := api.Mac{random(&n), random(&n), random(&n), random(&n), random(&n), random(&n)}
		eth.Many(m)
		eth.Show(m)
		eth.Write(api.Frame{To: m, Vlan: int(random(&n)) * 17 * (1 - i%3), Type: int(random(&n)) * 300 * (1 - i%5), Data: s})
	}
	huge := strings.Repeat("\x81\x00", 1<<20)
	eth.Read(huge)
	eth.Parse(huge)
	eth.Write(api.Frame{Data: huge})
}

// P2: nothing is kept from call to call, and what is handed in stays as it was.
func TestNothingIsKept(t *testing.T) {
	type answer struct {
		f       api.Frame
		s, show string
		m       api.Mac
		many    bool
		e       [3]api.Errno
	}
	texts := []string{
		"", names, names + "\x08\x00abc", names + "\x81\x00\x00\x09\x08\x00abc", names + "\x81\x00\xff\xff\x08\x00",
		"12:34:56:78:9a:bc", "ff:ff:ff:ff:ff:ff", long(70000),
	}
	ask := func(i int) (a answer) {
		f := frame(i-2, 33024+i-1, texts[i])
		before := f
		a.f, a.e[0] = eth.Read(texts[i])
		a.s, a.e[1] = eth.Write(f)
		a.m, a.e[2] = eth.Parse(texts[i])
		a.show, a.many = eth.Show(f.To), eth.Many(f.To)
		if f != before || f.To != to || f.From != from {
			t.Errorf("frame %d was changed", i)
		}
		return a
	}
	first := make([]answer, len(texts))
	for i := range texts {
		first[i] = ask(i)
	}
	for i := len(texts) - 1; i >= 0; i-- {
		if ask(i) != first[i] {
			t.Errorf("text %d is answered otherwise when it is asked again", i)
		}
	}
}
