package tcp_test

import (
	"fmt"
	"math"
	"reflect"
	"slices"
	"strings"
	"testing"

	"customshouse/api"
	"customshouse/dgram"
	"customshouse/ip"
	"customshouse/sum"
	"customshouse/tcp"
)

const (
	from = 0xc0a80001
	to   = 0xc0a800c7
)

// random gives bytes that are the same in each run.
func random(n *uint32) byte {
	*n = *n*1664525 + 1013904223
	return byte(*n >> 24)
}

func randomText(n *uint32, size int) string {
	b := make([]byte, size)
	for i := range b {
		b[i] = random(n)
	}
	return string(b)
}

func long(n int) string { return strings.Repeat("\xa5", n) }

func zeros(n int) string { return strings.Repeat("\x00", n) }

func word(n int) string { return string([]byte{byte(n >> 8), byte(n)}) }

func number(n uint32) string { return word(int(n>>16)) + word(int(n&65535)) }

// put gives s with other bytes at a place.
func put(s string, at int, other string) string { return s[:at] + other + s[at+len(other):] }

// remainder works an end-around sum out another way than package sum: by division.
func remainder(s string) int {
	total := 0
	for i := range len(s) {
		if i%2 == 0 {
			total += int(s[i]) << 8
		} else {
			total += int(s[i])
		}
	}
	if total == 0 {
		return 0
	}
	return (total-1)%65535 + 1
}

// checked gives s with a CHECK that makes it right under the addresses, whatever else it is.
func checked(s string, from, to uint32) string {
	s = put(s, 16, "\x00\x00")
	under := number(from) + number(to) + word(6) + word(len(s)&65535)
	return put(s, 16, word(65535-remainder(under+s)))
}

// optionsText gives the options' bytes that P6.1 asks for, from its words, those behind included.
func optionsText(options []api.Option) string {
	s := ""
	for _, o := range options {
		if o.Kind == 1 {
			s += "\x01"
		} else {
			s += string([]byte{byte(o.Kind), byte(len(o.Data) + 2)}) + o.Data
		}
	}
	for len(s)%4 != 0 {
		s += "\x00"
	}
	return s
}

// areaText gives a segment with these bytes for its options, which are a multiple of 4.
func areaText(g api.Segment, area string, from, to uint32) string {
	head := word(g.From) + word(g.To) + number(g.Seq) + number(g.Ack) + string([]byte{byte(80 + 4*len(area)), byte(g.Flags)})
	return checked(head+word(g.Window)+"\x00\x00"+word(g.Urgent)+area+g.Data, from, to)
}

// segmentText gives the bytes that P6.1 asks for, from its words.
func segmentText(g api.Segment, from, to uint32) string {
	return areaText(g, optionsText(g.Options), from, to)
}

func segment(change func(g *api.Segment)) api.Segment {
	g := api.Segment{From: 0x1234, To: 80, Seq: 0x01020304, Ack: 0x05060708, Flags: api.FAck | api.FPush, Window: 0x0a0b, Urgent: 0x0c0d, Data: "data"}
	change(&g)
	return g
}

func plain(g *api.Segment) {}

// same holds segments against each other; no options are no options, nil or not.
func same(a, b api.Segment) bool {
	options := slices.Equal(a.Options, b.Options)
	a.Options, b.Options = nil, nil
	return options && reflect.DeepEqual(a, b)
}

// none says that it is what goes with an error.
func none(g api.Segment) bool { return reflect.DeepEqual(g, api.Segment{}) }

func short(v any) string { return fmt.Sprintf("%.200s", fmt.Sprintf("%+v", v)) }

// goes says that g is written as s, and that s is read as g.
func goes(t *testing.T, g api.Segment, from, to uint32, s string) {
	t.Helper()
	if got, e := tcp.Write(g, from, to); got != s || e != api.OK {
		t.Errorf("Write(%s, %#x, %#x) = %.80x, %d, want %.80x", short(g), from, to, got, e, s)
	}
	if got, e := tcp.Read(s, from, to); !same(got, g) || e != api.OK {
		t.Errorf("Read(%.80x, %#x, %#x) = %s, %d, want %s", s, from, to, short(got), e, short(g))
	}
}

// P6.1, P6.2, and example 6 of the document: segments whose bytes are written out here.
func TestSegmentsAndTheirBytes(t *testing.T) {
	all := ""
	for i := range 38 {
		all += string([]byte{byte(i)})
	}
	for _, c := range []struct {
		g        api.Segment
		from, to uint32
		s        string
	}{
		{api.Segment{}, 0, 0, zeros(12) + "\x50\x00\x00\x00\xaf\xe5\x00\x00"},
		{
			api.Segment{From: 1, To: 2, Seq: 3, Ack: 4, Window: 5, Urgent: 6, Data: "h"}, 0, 0,
			"\x00\x01\x00\x02\x00\x00\x00\x03\x00\x00\x00\x04\x50\x00\x00\x05\x47\xcf\x00\x06h",
		},
		{
			api.Segment{From: 1, To: 2, Seq: 0x01020304, Ack: 0x05060708, Flags: 18, Window: 0x090a, Urgent: 0x0b0c, Data: "hi"}, 0, 0,
			"\x00\x01\x00\x02\x01\x02\x03\x04\x05\x06\x07\x08\x50\x12\x09\x0a\x23\x3b\x0b\x0chi",
		},
		{
			api.Segment{
				From: 0x1234, To: 80, Seq: 0x01020304, Ack: 0xfffffffe, Flags: 24, Window: 500,
				Options: []api.Option{{Kind: 1}, {Kind: 5, Data: "\x00\x00\x00\x01\x00\x00\x00\x09"}}, Data: "hello",
			}, 0x0a000001, 0x0a000002,
			"\x12\x34\x00\x50\x01\x02\x03\x04\xff\xff\xff\xfe\x80\x18\x01\xf4\xfa\x64\x00\x00\x01\x05\x0a\x00\x00\x00\x01\x00\x00\x00\x09\x00hello",
		},
		{
			api.Segment{From: 5000, To: 80, Seq: 1, Flags: api.FSyn, Window: 65535, Options: []api.Option{{Kind: 2, Data: "\x05\xb4"}}}, from, to,
			"\x13\x88\x00\x50\x00\x00\x00\x01\x00\x00\x00\x00\x60\x02\xff\xff\x02\x35\x00\x00\x02\x04\x05\xb4",
		},
		{
			api.Segment{
				From: 5000, To: 80, Seq: 1, Flags: api.FSyn, Window: 65535,
				Options: []api.Option{{Kind: 2, Data: "\x05\xb4"}, {Kind: 1}, {Kind: 3, Data: "\x07"}, {Kind: 4}, {Kind: 254, Data: "x"}},
			}, from, to,
			"\x13\x88\x00\x50\x00\x00\x00\x01\x00\x00\x00\x00\x90\x02\xff\xff\x54\x18\x00\x00\x02\x04\x05\xb4\x01\x03\x03\x07\x04\x02\xfe\x03x\x00\x00\x00",
		},
		{
			api.Segment{From: 65535, To: 65535, Seq: math.MaxUint32, Ack: math.MaxUint32, Flags: 255, Window: 65535, Urgent: 65535},
			math.MaxUint32, math.MaxUint32,
			strings.Repeat("\xff", 12) + "\x50\xff\xff\xff\xae\xe6\xff\xff",
		},
		{api.Segment{Options: []api.Option{{Kind: 255, Data: all}}, Data: "d"}, 0, 0, zeros(12) + "\xf0\x00\x00\x00\x55\x28\x00\x00\xff\x28" + all + "d"},
		// CHECKs around 0, which is one like others.
		{api.Segment{From: 0xafe4}, 0, 0, "\xaf\xe4" + zeros(10) + "\x50\x00\x00\x00\x00\x01\x00\x00"},
		{api.Segment{From: 0xafe5}, 0, 0, "\xaf\xe5" + zeros(10) + "\x50\x00\x00\x00\x00\x00\x00\x00"},
		{api.Segment{From: 0xafe6}, 0, 0, "\xaf\xe6" + zeros(10) + "\x50\x00\x00\x00\xff\xfe\x00\x00"},
	} {
		goes(t, c.g, c.from, c.to, c.s)
	}
}

// P6.1, P6.2: each field at its bounds and around them, in the bytes that the promise names.
func TestEachFieldOfASegment(t *testing.T) {
	for _, c := range []struct {
		at    int
		bytes string
		set   func(g *api.Segment)
	}{
		{0, "\x00\x00", func(g *api.Segment) { g.From = 0 }},
		{0, "\xff\xff", func(g *api.Segment) { g.From = 65535 }},
		{0, "\x01\x02", func(g *api.Segment) { g.From = 258 }},
		{2, "\x00\x00", func(g *api.Segment) { g.To = 0 }},
		{2, "\xff\xff", func(g *api.Segment) { g.To = 65535 }},
		{2, "\x01\x02", func(g *api.Segment) { g.To = 258 }},
		{4, "\x00\x00\x00\x00", func(g *api.Segment) { g.Seq = 0 }},
		{4, "\xff\xff\xff\xff", func(g *api.Segment) { g.Seq = math.MaxUint32 }},
		{4, "\x80\x7f\x01\xfe", func(g *api.Segment) { g.Seq = 0x807f01fe }},
		{8, "\x00\x00\x00\x00", func(g *api.Segment) { g.Ack = 0 }},
		{8, "\xff\xff\xff\xff", func(g *api.Segment) { g.Ack = math.MaxUint32 }},
		{8, "\x80\x7f\x01\xfe", func(g *api.Segment) { g.Flags, g.Ack = 0, 0x807f01fe }},
		{12, "\x50\x00", func(g *api.Segment) { g.Flags = 0 }},
		{12, "\x50\xff", func(g *api.Segment) { g.Flags = 255 }},
		{12, "\x50\xc0", func(g *api.Segment) { g.Flags = 64 | 128 }},
		{14, "\x00\x00", func(g *api.Segment) { g.Window = 0 }},
		{14, "\xff\xff", func(g *api.Segment) { g.Window = 65535 }},
		{14, "\x01\x02", func(g *api.Segment) { g.Window = 258 }},
		{18, "\x00\x00", func(g *api.Segment) { g.Urgent = 0 }},
		{18, "\xff\xff", func(g *api.Segment) { g.Urgent = 65535 }},
		{18, "\x01\x02", func(g *api.Segment) { g.Urgent = 258 }},
		{20, "", func(g *api.Segment) { g.Data = "" }},
		{20, "\x00", func(g *api.Segment) { g.Data = "\x00" }},
		{20, "\x00\xff\x01", func(g *api.Segment) { g.Data = "\x00\xff\x01" }},
		{65474, "\xa5", func(g *api.Segment) { g.Data = long(65455) }},
		{65473, "\xa5", func(g *api.Segment) { g.Data = long(65454) }},
	} {
		g := segment(c.set)
		goes(t, g, from, to, segmentText(g, from, to))
		if s, _ := tcp.Write(g, from, to); len(s) != 20+len(g.Data) || s[c.at:c.at+len(c.bytes)] != c.bytes {
			t.Errorf("Write(%s) = %.80x of %d bytes, want %x at %d", short(g), s, len(s), c.bytes, c.at)
		}
	}
	for flags := range 256 {
		g := segment(func(g *api.Segment) { g.Flags = flags })
		goes(t, g, from, to, segmentText(g, from, to))
	}
}

// P6.1, P6.2: options of every number of bytes, filled up to the next multiple of 4.
func TestOptionsAreFilledUp(t *testing.T) {
	for size := range 41 {
		filled := (size + 3) / 4 * 4
		lists := [][]api.Option{slices.Repeat([]api.Option{{Kind: 1}}, size)}
		if size >= 2 {
			lists = append(lists, []api.Option{{Kind: 9, Data: long(size - 2)}})
		}
		if size >= 5 {
			lists = append(lists, []api.Option{{Kind: 1}, {Kind: 255}, {Kind: 2, Data: zeros(size - 5)}})
		}
		for _, l := range lists {
			g := segment(func(g *api.Segment) { g.Options = l })
			s := segmentText(g, from, to)
			if len(s) != 20+filled+4 || int(s[12]) != 4*(20+filled) || s[20+size:20+filled] != zeros(filled-size) {
				t.Fatalf("%v: %x is no text to hold Write against", l, s)
			}
			goes(t, g, from, to, s)
		}
	}
}

// P6.1, P6.2: every Kind, with Data of every size that it may have.
func TestEveryOption(t *testing.T) {
	n := uint32(3)
	for kind := 1; kind <= 255; kind++ {
		for size := range 39 {
			if kind == 1 && size > 0 {
				break
			}
			g := segment(func(g *api.Segment) { g.Options = []api.Option{{Kind: kind, Data: randomText(&n, size)}} })
			goes(t, g, from, to, segmentText(g, from, to))
		}
	}
}

// P6.1, P6.2: segments of many shapes between many addresses, and all of them are right.
func TestManySegments(t *testing.T) {
	n := uint32(1)
	for i := range 6000 {
		g := api.Segment{From: int(random(&n)) << 8 >> (i % 9), To: int(random(&n)) * 257, Flags: int(random(&n))}
		g.Window, g.Urgent, g.Data = int(random(&n))*256, int(random(&n)), randomText(&n, i%300)
		for room := 40; room >= 2 && random(&n) > 60; {
			o := api.Option{Kind: 1}
			if random(&n) > 80 {
				o = api.Option{Kind: 2 + int(random(&n))%254, Data: randomText(&n, int(random(&n))%(room-1))}
			}
			g.Options = append(g.Options, o)
			room -= 2 + len(o.Data)
		}
		g.Seq, g.Ack = n, n*0x85ebca6b
		a, b := n*0x9e3779b1, n>>1
		s := segmentText(g, a, b)
		goes(t, g, a, b, s)
		if !sum.Right(dgram.Under(a, b, 6, len(s)) + s) {
			t.Errorf("%x is not right", s)
		}
	}
}

// P6.1: what can't be written, and of several errors the one that is told first.
func TestWriteOfWrongSegments(t *testing.T) {
	many := func(size int) []api.Option { return slices.Repeat([]api.Option{{Kind: 1}}, size) }
	for _, c := range []struct {
		set  func(g *api.Segment)
		want api.Errno
	}{
		{func(g *api.Segment) { g.From, g.Options = -1, []api.Option{{}} }, api.ErrArg},
		{func(g *api.Segment) { g.Flags, g.Options = 256, []api.Option{{}} }, api.ErrArg},
		{func(g *api.Segment) { g.Urgent, g.Data = 65536, long(65456) }, api.ErrArg},
		{func(g *api.Segment) { g.Window, g.Options = 65536, many(41) }, api.ErrArg},
		{func(g *api.Segment) { g.Options = []api.Option{{}} }, api.ErrForm},
		{func(g *api.Segment) { g.Options = []api.Option{{Kind: 0, Data: "x"}} }, api.ErrForm},
		{func(g *api.Segment) { g.Options = []api.Option{{Kind: -1}} }, api.ErrForm},
		{func(g *api.Segment) { g.Options = []api.Option{{Kind: 256}} }, api.ErrForm},
		{func(g *api.Segment) { g.Options = []api.Option{{Kind: 257}} }, api.ErrForm},
		{func(g *api.Segment) { g.Options = []api.Option{{Kind: 1<<32 + 2}} }, api.ErrForm},
		{func(g *api.Segment) { g.Options = []api.Option{{Kind: math.MinInt}} }, api.ErrForm},
		{func(g *api.Segment) { g.Options = []api.Option{{Kind: math.MaxInt}} }, api.ErrForm},
		{func(g *api.Segment) { g.Options = []api.Option{{Kind: 1, Data: "x"}} }, api.ErrForm},
		{func(g *api.Segment) { g.Options = []api.Option{{Kind: 1, Data: long(39)}} }, api.ErrForm},
		{func(g *api.Segment) { g.Options = []api.Option{{Kind: 2, Data: long(39)}} }, api.ErrForm},
		{func(g *api.Segment) { g.Options = []api.Option{{Kind: 255, Data: long(39)}} }, api.ErrForm},
		{func(g *api.Segment) { g.Options = []api.Option{{Kind: 2, Data: long(256)}} }, api.ErrForm},
		{func(g *api.Segment) { g.Options = []api.Option{{Kind: 2, Data: long(1 << 20)}} }, api.ErrForm},
		{func(g *api.Segment) { g.Options = []api.Option{{Kind: 2}, {Kind: 1}, {Kind: 0}} }, api.ErrForm},
		{func(g *api.Segment) { g.Options = []api.Option{{Kind: 0}, {Kind: 2}} }, api.ErrForm},
		{func(g *api.Segment) { g.Options = append(many(41), api.Option{Kind: 0}) }, api.ErrForm},
		{func(g *api.Segment) { g.Options, g.Data = []api.Option{{Kind: 256}}, long(65456) }, api.ErrForm},
		{func(g *api.Segment) { g.Options = many(41) }, api.ErrLarge},
		{func(g *api.Segment) { g.Options = many(256) }, api.ErrLarge},
		{func(g *api.Segment) { g.Options = many(1 << 20) }, api.ErrLarge},
		{func(g *api.Segment) { g.Options = []api.Option{{Kind: 2, Data: long(38)}, {Kind: 1}} }, api.ErrLarge},
		{func(g *api.Segment) { g.Options = []api.Option{{Kind: 1}, {Kind: 2, Data: long(38)}} }, api.ErrLarge},
		{func(g *api.Segment) { g.Options = []api.Option{{Kind: 3, Data: long(18)}, {Kind: 2, Data: long(19)}} }, api.ErrLarge},
		{func(g *api.Segment) { g.Options = slices.Repeat([]api.Option{{Kind: 4}}, 21) }, api.ErrLarge},
		{func(g *api.Segment) { g.Data = long(65456) }, api.ErrLarge},
		{func(g *api.Segment) { g.Data, g.Options = long(65456), many(40) }, api.ErrLarge},
		{func(g *api.Segment) { g.Data = long(65535) }, api.ErrLarge},
		{func(g *api.Segment) { g.Data = long(65536) }, api.ErrLarge},
		{func(g *api.Segment) { g.Data = long(1 << 20) }, api.ErrLarge},
	} {
		g := segment(c.set)
		if s, e := tcp.Write(g, from, to); s != "" || e != c.want {
			t.Errorf("Write(%s) = %.80x, %d, want %d", short(g), s, e, c.want)
		}
	}
}

// P6.1: each number that has bounds, out of them, however far.
func TestWriteOutOfBounds(t *testing.T) {
	for name, field := range map[string]func(g *api.Segment) (*int, int){
		"From":   func(g *api.Segment) (*int, int) { return &g.From, 65535 },
		"To":     func(g *api.Segment) (*int, int) { return &g.To, 65535 },
		"Window": func(g *api.Segment) (*int, int) { return &g.Window, 65535 },
		"Urgent": func(g *api.Segment) (*int, int) { return &g.Urgent, 65535 },
		"Flags":  func(g *api.Segment) (*int, int) { return &g.Flags, 255 },
	} {
		g := segment(plain)
		at, most := field(&g)
		for _, n := range []int{-1, most + 1, -most, 1 << 20, 1<<32 + 1, 1<<32 + most, -1 << 40, math.MinInt, math.MaxInt} {
			*at = n
			if s, e := tcp.Write(g, from, to); s != "" || e != api.ErrArg {
				t.Errorf("Write with %s %d = %x, %d", name, n, s, e)
			}
		}
		for _, n := range []int{0, most} {
			*at = n
			goes(t, g, from, to, segmentText(g, from, to))
		}
	}
}

// P6.2: what can't be read, and of several errors the one that is told first.
func TestReadOfWrongSegments(t *testing.T) {
	good := segmentText(segment(plain), from, to)
	with := segmentText(segment(func(g *api.Segment) { g.Options = []api.Option{{Kind: 2, Data: "\x05\xb4"}, {Kind: 4}} }), from, to)
	great := segmentText(segment(func(g *api.Segment) { g.Data = long(65455) }), from, to)
	right := func(s string) string { return checked(s, from, to) }
	for _, c := range []struct {
		s    string
		want api.Errno
	}{
		{"", api.ErrShort},
		{good[:12], api.ErrShort},
		{good[:13], api.ErrShort},
		{good[:19], api.ErrShort},
		{right(zeros(19)), api.ErrShort},
		{put(good, 12, "\x00")[:19], api.ErrShort},
		{put(good, 12, "\x51")[:19], api.ErrShort},
		{with[:20], api.ErrShort},
		{with[:27], api.ErrShort},
		{put(with, 12, "\x71")[:27], api.ErrShort},
		{right(put(with, 12, "\x7f")[:27]), api.ErrShort},
		{right(put(good, 12, "\xf0")), api.ErrShort},
		{right(put(good, 12, "\xff") + long(35)), api.ErrShort},
		{right(put(good, 12, "\x00")), api.ErrForm},
		{right(put(good, 12, "\x40")), api.ErrForm},
		{right(put(good, 12, "\x4f")), api.ErrForm},
		{right(put(good, 12, "\x51")), api.ErrForm},
		{right(put(good, 12, "\x58")), api.ErrForm},
		{right(put(with, 12, "\x7f")), api.ErrForm},
		{put(good, 12, "\x51"), api.ErrForm},
		{right(put(great, 12, "\x51") + "x"), api.ErrForm},
		{right(put(great, 12, "\x40") + "x"), api.ErrForm},
		{right(great + "x"), api.ErrLarge},
		{great + "x", api.ErrLarge},
		{right(put(great, 12, "\x60") + long(5)), api.ErrLarge},
		{right(put(great, 12, "\xf0") + long(41)), api.ErrLarge},
		{right(great + long(60)), api.ErrLarge},
		{right(great + long(61)), api.ErrLarge},
		{right(great + long(1<<20)), api.ErrLarge},
		{put(with, 20, "\x02\x01"), api.ErrForm},
		{right(put(with, 20, "\x02\x01")), api.ErrForm},
		{good + "x", api.ErrSum},
		{good[:23], api.ErrSum},
		{good[:20], api.ErrSum},
		{put(good, 16, "\x00\x00"), api.ErrSum},
		{put(good, 16, "\xff\xff"), api.ErrSum},
		{put(with, 22, "\x05\xb5"), api.ErrSum},
		{put(great, 65474, "b"), api.ErrSum},
		{zeros(12) + "\x50" + zeros(7), api.ErrSum},
	} {
		if g, e := tcp.Read(c.s, from, to); !none(g) || e != c.want {
			t.Errorf("Read(%.80x of %d bytes) = %s, %d, want %d", c.s, len(c.s), short(g), e, c.want)
		}
	}
}

// P6.2: every thirteenth byte, with s of every size around where Data begins.
func TestReadOfEveryThirteenthByte(t *testing.T) {
	g := segment(plain)
	for n := range 256 {
		for size := range 70 {
			s := (areaText(g, "", from, to)[:20] + zeros(50))[:size]
			if size > 12 {
				s = put(s, 12, string([]byte{byte(n)}))
			}
			if size > 17 {
				s = checked(s, from, to)
			}
			head := n / 16 * 4
			got, e := tcp.Read(s, from, to)
			switch {
			case size < 20 || size < head:
				if !none(got) || e != api.ErrShort {
					t.Errorf("byte %#x of %d bytes: %s, %d", n, size, short(got), e)
				}
			case head < 20 || n%16 > 0:
				if !none(got) || e != api.ErrForm {
					t.Errorf("byte %#x of %d bytes: %s, %d", n, size, short(got), e)
				}
			default:
				want := g
				want.Data = zeros(size - head)
				if !same(got, want) || e != api.OK {
					t.Errorf("byte %#x of %d bytes: %s, %d", n, size, short(got), e)
				}
			}
		}
	}
}

// P6.2: the most Data, behind options of every size.
func TestReadOfTheMostData(t *testing.T) {
	for size := 0; size <= 40; size += 4 {
		g := segment(func(g *api.Segment) { g.Data = long(65455) })
		s := areaText(g, zeros(size), from, to)
		if got, e := tcp.Read(s, from, to); !same(got, g) || e != api.OK {
			t.Errorf("%d bytes of options: %s, %d", size, short(got), e)
		}
		if got, e := tcp.Read(checked(s+"x", from, to), from, to); !none(got) || e != api.ErrLarge {
			t.Errorf("%d bytes of options, and a byte more: %s, %d", size, short(got), e)
		}
	}
}

// P6.2: options' bytes, and what is read of them.
func TestReadOfOptions(t *testing.T) {
	for _, c := range []struct {
		area string
		want []api.Option
		ok   bool
	}{
		{"", nil, true},
		{zeros(4), nil, true},
		{zeros(40), nil, true},
		{"\x01\x00\x00\x00", []api.Option{{Kind: 1}}, true},
		{"\x01\x01\x01\x01", []api.Option{{Kind: 1}, {Kind: 1}, {Kind: 1}, {Kind: 1}}, true},
		{"\x01\x01\x01\x01" + zeros(36), []api.Option{{Kind: 1}, {Kind: 1}, {Kind: 1}, {Kind: 1}}, true},
		{"\x02\x04\x05\xb4", []api.Option{{Kind: 2, Data: "\x05\xb4"}}, true},
		{"\x02\x04\x00\x00", []api.Option{{Kind: 2, Data: "\x00\x00"}}, true},
		{"\x02\x03\x00\x00", []api.Option{{Kind: 2, Data: "\x00"}}, true},
		{"\x02\x02\x00\x00", []api.Option{{Kind: 2}}, true},
		{"\x02\x02\x02\x02", []api.Option{{Kind: 2}, {Kind: 2}}, true},
		{"\xff\x02\x01\x00", []api.Option{{Kind: 255}, {Kind: 1}}, true},
		{"\x01\x01\x04\x02", []api.Option{{Kind: 1}, {Kind: 1}, {Kind: 4}}, true},
		{"\x01\x01\x04\x02\x00\x00\x00\x00", []api.Option{{Kind: 1}, {Kind: 1}, {Kind: 4}}, true},
		{"\x08\x28" + long(38), []api.Option{{Kind: 8, Data: long(38)}}, true},
		{"\x08\x27" + long(37) + "\x00", []api.Option{{Kind: 8, Data: long(37)}}, true},
		{"\x08\x27" + long(37) + "\x01", []api.Option{{Kind: 8, Data: long(37)}, {Kind: 1}}, true},
		{"\x09\x08\x00\x01\x00\x02\x00\x03", []api.Option{{Kind: 9, Data: "\x00\x01\x00\x02\x00\x03"}}, true},
		// Something stands behind the byte that ends them.
		{"\x00\x01\x00\x00", nil, false},
		{"\x00\x00\x00\x01", nil, false},
		{"\x00\x02\x02\x00", nil, false},
		{"\x01\x00\x01\x01", nil, false},
		{"\x04\x02\x00\xff", nil, false},
		{zeros(39) + "\x01", nil, false},
		{zeros(20) + "\x80" + zeros(19), nil, false},
		// They end too early, or say that they have less than a Kind and a size.
		{"\x02\x00\x00\x00", nil, false},
		{"\x02\x01\x00\x00", nil, false},
		{"\x02\x01\x01\x01", nil, false},
		{"\x02\x05\x00\x00", nil, false},
		{"\x02\xff\x00\x00", nil, false},
		{"\x01\x01\x01\x02", nil, false},
		{"\x01\x01\x02\x03", nil, false},
		{"\x02\x02\x02\x03", nil, false},
		{"\x02\x02\x00\x00\x02\x02\x00\x00", nil, false},
		{"\x08\x29" + long(38), nil, false},
		{"\x08\x27" + long(37) + "\x02", nil, false},
		{"\x08\x00" + zeros(38), nil, false},
	} {
		// What Data would give to an option that is too long is not taken out of it.
		g := segment(func(g *api.Segment) { g.Options, g.Data = c.want, long(300) })
		got, e := tcp.Read(areaText(g, c.area, from, to), from, to)
		if c.ok && (!same(got, g) || e != api.OK) {
			t.Errorf("options %x: %s, %d", c.area, short(got), e)
		}
		if !c.ok && (!none(got) || e != api.ErrForm) {
			t.Errorf("options %x: %s, %d, want %d", c.area, short(got), e, api.ErrForm)
		}
	}
}

// readable gives the options of an area another way than Read: by trying which Kind and size the bytes begin with.
func readable(area string) ([]api.Option, bool) {
	if strings.Count(area, "\x00") == len(area) {
		return nil, true
	}
	kind, size := int(area[0]), 1
	if kind == 0 {
		return nil, false
	}
	if kind > 1 {
		if len(area) == 1 || area[1] < 2 || int(area[1]) > len(area) {
			return nil, false
		}
		size = int(area[1])
	}
	rest, ok := readable(area[size:])
	return append([]api.Option{{Kind: kind, Data: area[min(2, size):size]}}, rest...), ok
}

// P6.2: options' bytes of many kinds, most of them nearly right; whatever is read is written again, and read as it was.
func TestReadOfManyOptions(t *testing.T) {
	n, read := uint32(9), 0
	for i := range 60000 {
		area := []byte(randomText(&n, i%11*4))
		for k := range area {
			if random(&n) > 30 {
				area[k] = []byte{0, 1, 1, 1, 2, 2, 3, 4, 5, 0, 0}[int(random(&n))%11]
			}
		}
		if i%3 == 0 && len(area) > 0 {
			clear(area[int(random(&n))%len(area):])
		}
		want, ok := readable(string(area))
		g := segment(func(g *api.Segment) { g.Data = "\x02\x02\x02\x02" })
		s := areaText(g, string(area), from, to)
		got, e := tcp.Read(s, from, to)
		if !ok {
			if !none(got) || e != api.ErrForm {
				t.Errorf("options %x: %s, %d", area, short(got), e)
			}
			continue
		}
		read++
		g.Options = want
		if !same(got, g) || e != api.OK {
			t.Errorf("options %x: %s, %d", area, short(got), e)
		}
		goes(t, g, from, to, segmentText(g, from, to))
	}
	if read < 5000 || read > 50000 {
		t.Errorf("%d of 60000 were read", read)
	}
}

// P6.2: a segment that is right under its addresses is not so under others.
func TestReadUnderOtherAddresses(t *testing.T) {
	g := segment(plain)
	s := segmentText(g, from, to)
	for bit := range 32 {
		for _, ends := range [][2]uint32{{from ^ 1<<bit, to}, {from, to ^ 1<<bit}} {
			if got, e := tcp.Read(s, ends[0], ends[1]); !none(got) || e != api.ErrSum {
				t.Errorf("Read(%x, %#x, %#x) = %s, %d", s, ends[0], ends[1], short(got), e)
			}
		}
	}
	if got, e := tcp.Read(s, to, from); !same(got, g) || e != api.OK {
		t.Errorf("the sum of both addresses is the same, and yet: %s, %d", short(got), e)
	}
}

// P6.2: each bit of a segment counts.
func TestReadOfOtherBits(t *testing.T) {
	s := segmentText(segment(func(g *api.Segment) { g.Options = []api.Option{{Kind: 9, Data: "abcdef"}} }), from, to)
	for at := range len(s) {
		if at == 12 || at == 20 || at == 21 {
			continue
		}
		for bit := range 8 {
			other := put(s, at, string([]byte{s[at] ^ 1<<bit}))
			if g, e := tcp.Read(other, from, to); !none(g) || e != api.ErrSum {
				t.Errorf("bit %d of byte %d: %s, %d", bit, at, short(g), e)
			}
		}
	}
}

// P6.2: of every CHECK a segment has one that is right; two, where one of them is 0.
func TestReadOfEveryCheck(t *testing.T) {
	for _, g := range []api.Segment{segment(plain), {From: 0xafe5}} {
		a, b := uint32(from), uint32(to)
		if g.Data == "" {
			a, b = 0, 0
		}
		s := segmentText(g, a, b)
		for n := range 65536 {
			other := put(s, 16, word(n))
			got, e := tcp.Read(other, a, b)
			if other == s || n == 65535 && s[16:18] == "\x00\x00" {
				if !same(got, g) || e != api.OK {
					t.Errorf("CHECK %d: %s, %d", n, short(got), e)
				}
			} else if !none(got) || e != api.ErrSum {
				t.Errorf("CHECK %d: %s, %d", n, short(got), e)
			}
		}
	}
}

// The greatest segment is one that a packet carries.
func TestTheGreatestGoesIntoAPacket(t *testing.T) {
	g := segment(func(g *api.Segment) { g.Options, g.Data = []api.Option{{Kind: 9, Data: long(38)}}, long(65455) })
	s := segmentText(g, from, to)
	goes(t, g, from, to, s)
	if w, e := ip.Write(api.Packet{Proto: 6, From: from, To: to, Data: s}); len(w) != api.MaxFrame || e != api.OK {
		t.Errorf("a packet of %d bytes, %d", len(w), e)
	}
}

// P6.3: Mss, of segments that are right and of others.
func TestMss(t *testing.T) {
	for _, c := range []struct {
		options []api.Option
		want    int
		ok      bool
	}{
		{nil, 0, false},
		{[]api.Option{}, 0, false},
		{[]api.Option{{Kind: 2, Data: "\x05\xb4"}}, 1460, true},
		{[]api.Option{{Kind: 2, Data: "\x00\x00"}}, 0, true},
		{[]api.Option{{Kind: 2, Data: "\xff\xff"}}, 65535, true},
		{[]api.Option{{Kind: 2, Data: "\x01\x02"}}, 258, true},
		{[]api.Option{{Kind: 1}, {Kind: 3, Data: "\x07"}, {Kind: 2, Data: "\x02\x18"}, {Kind: 4}}, 536, true},
		{[]api.Option{{Kind: 2, Data: "\x00\x01"}, {Kind: 2, Data: "\x00\x02"}}, 1, true},
		{[]api.Option{{Kind: 2}, {Kind: 2, Data: "\x01"}, {Kind: 2, Data: "\x01\x02\x03"}, {Kind: 2, Data: "\x00\x07"}}, 7, true},
		{[]api.Option{{Kind: 2}}, 0, false},
		{[]api.Option{{Kind: 2, Data: "\x05"}}, 0, false},
		{[]api.Option{{Kind: 2, Data: "\x05\xb4\x00"}}, 0, false},
		{[]api.Option{{Kind: 2, Data: "\x05\xb4\x05\xb4"}}, 0, false},
		{[]api.Option{{Kind: 1, Data: "\x05\xb4"}, {Kind: 3, Data: "\x05\xb4"}, {Kind: 0, Data: "\x05\xb4"}}, 0, false},
		{[]api.Option{{Kind: 258, Data: "\x05\xb4"}, {Kind: -254, Data: "\x05\xb4"}, {Kind: -2, Data: "\x05\xb4"}}, 0, false},
		{[]api.Option{{Kind: 1<<32 + 2, Data: "\x05\xb4"}, {Kind: math.MinInt, Data: "\x05\xb4"}}, 0, false},
		{[]api.Option{{Kind: 0}, {Kind: math.MaxInt, Data: long(99)}, {Kind: 2, Data: "\x00\x09"}}, 9, true},
	} {
		for _, g := range []api.Segment{{Options: c.options}, {From: -1, Flags: math.MinInt, Options: c.options, Data: long(70000)}} {
			if n, ok := tcp.Mss(g); n != c.want || ok != c.ok {
				t.Errorf("Mss of %v = %d, %t, want %d, %t", c.options, n, ok, c.want, c.ok)
			}
		}
	}
	for n := range 65536 {
		g := segment(func(g *api.Segment) { g.Options = []api.Option{{Kind: 2, Data: word(n)}} })
		if got, ok := tcp.Mss(g); got != n || !ok {
			t.Errorf("Mss of %d = %d, %t", n, got, ok)
		}
	}
}

// P6.3: Move of Seq and Ack, with all numbers of which the bit FAck is 1, or 0.
func TestMove(t *testing.T) {
	for _, c := range []struct {
		flags            int
		seq, ack         uint32
		bySeq, byAck     uint32
		wantSeq, wantAck uint32
	}{
		{16, 1, 2, 0, 0, 1, 2},
		{16, 1, 2, 10, 20, 11, 22},
		{0, 1, 2, 10, 20, 11, 2},
		{16, math.MaxUint32, math.MaxUint32, 1, 1, 0, 0},
		{16, math.MaxUint32, math.MaxUint32, math.MaxUint32, math.MaxUint32, math.MaxUint32 - 1, math.MaxUint32 - 1},
		{0, math.MaxUint32, math.MaxUint32, 2, 2, 1, math.MaxUint32},
		{16, 0, 0, math.MaxUint32, 1 << 31, math.MaxUint32, 1 << 31},
		{16, 1 << 31, 1 << 31, 1 << 31, 1<<31 + 5, 0, 5},
		{255, 5, 5, 1, 2, 6, 7},
		{239, 5, 5, 1, 2, 6, 5},
		{15, 5, 5, 1, 2, 6, 5},
		{32, 5, 5, 1, 2, 6, 5},
		{17, 5, 5, 1, 2, 6, 7},
		{256, 5, 5, 1, 2, 6, 5},
		{256 + 16, 5, 5, 1, 2, 6, 7},
		{1 << 40, 5, 5, 1, 2, 6, 5},
		{1<<40 + 16, 5, 5, 1, 2, 6, 7},
		{-1, 5, 5, 1, 2, 6, 7},
		{-16, 5, 5, 1, 2, 6, 7},
		{-17, 5, 5, 1, 2, 6, 5},
		{-32, 5, 5, 1, 2, 6, 5},
		{math.MinInt, 5, 5, 1, 2, 6, 5},
		{math.MaxInt, 5, 5, 1, 2, 6, 7},
	} {
		g := segment(func(g *api.Segment) { g.Flags, g.Seq, g.Ack = c.flags, c.seq, c.ack })
		want := g
		want.Seq, want.Ack = c.wantSeq, c.wantAck
		if got := tcp.Move(g, c.bySeq, c.byAck); !same(got, want) {
			t.Errorf("Move(%s, %d, %d) = %s, want %s", short(g), c.bySeq, c.byAck, short(got), short(want))
		}
	}
}

// P6.3: Move of the longs of options of Kind 5, and of no others.
func TestMoveOfOptions(t *testing.T) {
	const by = 0x01020304
	for _, c := range []struct{ options, want []api.Option }{
		{nil, nil},
		{[]api.Option{}, nil},
		{[]api.Option{{Kind: 5}}, []api.Option{{Kind: 5}}},
		{[]api.Option{{Kind: 5, Data: zeros(8)}}, []api.Option{{Kind: 5, Data: "\x01\x02\x03\x04\x01\x02\x03\x04"}}},
		{
			[]api.Option{{Kind: 5, Data: "\x00\x00\x00\xff\x00\x00\xff\xff"}},
			[]api.Option{{Kind: 5, Data: "\x01\x02\x04\x03\x01\x03\x03\x03"}},
		},
		{
			[]api.Option{{Kind: 5, Data: "\xff\xff\xff\xff\xfe\xfd\xfc\xfc"}},
			[]api.Option{{Kind: 5, Data: "\x01\x02\x03\x03\x00\x00\x00\x00"}},
		},
		{
			[]api.Option{{Kind: 5, Data: "\x00\x00\x00\x01\x00\x00\x00\x02\x00\x00\x00\x03\x00\x00\x00\x04"}},
			[]api.Option{{Kind: 5, Data: "\x01\x02\x03\x05\x01\x02\x03\x06\x01\x02\x03\x07\x01\x02\x03\x08"}},
		},
		{[]api.Option{{Kind: 5, Data: zeros(32)}}, []api.Option{{Kind: 5, Data: strings.Repeat("\x01\x02\x03\x04", 8)}}},
		{[]api.Option{{Kind: 5, Data: zeros(8000)}}, []api.Option{{Kind: 5, Data: strings.Repeat("\x01\x02\x03\x04", 2000)}}},
		{
			[]api.Option{{Kind: 2, Data: zeros(8)}, {Kind: 5, Data: zeros(8)}, {Kind: 1}, {Kind: 5, Data: "\x00\x00\x00\x01\x00\x00\x00\x02"}, {Kind: 5, Data: "x"}},
			[]api.Option{{Kind: 2, Data: zeros(8)}, {Kind: 5, Data: "\x01\x02\x03\x04\x01\x02\x03\x04"}, {Kind: 1}, {Kind: 5, Data: "\x01\x02\x03\x05\x01\x02\x03\x06"}, {Kind: 5, Data: "x"}},
		},
	} {
		for _, set := range []func(g *api.Segment){plain, func(g *api.Segment) { g.From, g.Window, g.Data = -1, math.MaxInt, long(70000) }} {
			g := segment(set)
			g.Options = c.options
			want := segment(set)
			want.Seq, want.Ack, want.Options = want.Seq+7, want.Ack+by, c.want
			if got := tcp.Move(g, 7, by); !same(got, want) {
				t.Errorf("Move(%s) = %s, want %s", short(g), short(got), short(want))
			}
			g.Flags ^= api.FAck
			want = g
			want.Seq += 7
			if got := tcp.Move(g, 7, by); !same(got, want) {
				t.Errorf("Move(%s) = %s, want %s", short(g), short(got), short(want))
			}
		}
	}
}

// P6.3: of options of all other Kinds, and of Data that is of no multiple of 8 bytes, nothing is changed.
func TestMoveLeavesOtherOptions(t *testing.T) {
	stays := func(o api.Option) {
		t.Helper()
		g := segment(func(g *api.Segment) { g.Options = []api.Option{o, o} })
		want := g
		want.Seq, want.Ack = want.Seq+1, want.Ack+2
		if got := tcp.Move(g, 1, 2); !same(got, want) {
			t.Errorf("Move(%s) = %s", short(g), short(got))
		}
	}
	for kind := -300; kind <= 600; kind++ {
		if kind != 5 {
			stays(api.Option{Kind: kind, Data: long(8)})
		}
	}
	for _, kind := range []int{1<<32 + 5, -1<<32 + 5, math.MinInt, math.MinInt + 5, math.MaxInt} {
		stays(api.Option{Kind: kind, Data: long(8)})
	}
	for size := range 100 {
		if size%8 > 0 {
			stays(api.Option{Kind: 5, Data: long(size)})
		}
	}
}

// P6.3: moved there and back a segment is what it was, and each of them can be written.
func TestMoveThereAndBack(t *testing.T) {
	n := uint32(11)
	for i := range 3000 {
		g := segment(func(g *api.Segment) { g.Seq, g.Ack, g.Flags, g.Data = n, n*7, i%256, randomText(&n, i%9) })
		g.Options = []api.Option{{Kind: 5, Data: randomText(&n, i%39)}}
		seq, ack := n, n*0x9e3779b1
		there := tcp.Move(g, seq, ack)
		if back := tcp.Move(there, -seq, -ack); !same(back, g) {
			t.Errorf("Move(%s) there and back = %s", short(g), short(back))
		}
		goes(t, there, from, to, segmentText(there, from, to))
	}
}

// P1: each call answers, whatever it is given.
func TestEveryCallAnswers(t *testing.T) {
	n := uint32(7)
	for i := range 30000 {
		s := randomText(&n, i%90)
		if len(s) >= 20 && i%3 > 0 {
			s = put(s, 12, string([]byte{s[12] & 0xf0}))
		}
		if len(s) >= 20 && i%5 > 1 {
			s = checked(s, n, n>>3)
		}
		g, _ := tcp.Read(s, n, n>>3)
		tcp.Mss(g)
		k := (int(n) - 1<<31) >> (i % 33)
		g = api.Segment{From: i % 3, To: i % 5, Flags: k, Window: k, Urgent: i, Data: s}
		if i%4 > 0 {
			g.Flags, g.Window = i%256, i%100
		}
		for range i % 4 {
			g.Options = append(g.Options, api.Option{Kind: int(random(&n)) % 8, Data: randomText(&n, int(random(&n))%50)})
		}
		tcp.Write(g, n, n>>3)
		tcp.Mss(g)
		tcp.Move(g, n, n*5)
	}
	huge := strings.Repeat("\xff\xf0", 1<<20)
	tcp.Read(huge, from, to)
	g := api.Segment{Flags: 16, Options: slices.Repeat([]api.Option{{Kind: 5, Data: huge}, {Kind: 2, Data: huge}}, 3), Data: huge}
	tcp.Write(g, from, to)
	tcp.Mss(g)
	tcp.Move(g, 1, math.MaxUint32)
}

// roomy gives a list with room behind it, and something in that room.
func roomy(l []api.Option) []api.Option {
	out := append(make([]api.Option, 0, len(l)+3), l...)
	for i := len(l); i < cap(out); i++ {
		out[:cap(out)][i] = api.Option{Kind: 5, Data: "behind.."}
	}
	return out
}

// spoil writes into a list, and into the room behind it.
func spoil(l []api.Option) {
	for i := range l[:cap(l)] {
		l[:cap(l)][i] = api.Option{Kind: -77, Data: "spoiled"}
	}
}

func wholeOf(l []api.Option) []api.Option { return slices.Clone(l[:cap(l)]) }

// P2: the list that is handed in isn't changed or shared, the room behind it included.
func TestListsAreNotShared(t *testing.T) {
	for _, l := range [][]api.Option{
		{},
		{{Kind: 1}},
		{{Kind: 5, Data: zeros(8)}},
		{{Kind: 2, Data: "\x05\xb4"}, {Kind: 5, Data: zeros(16)}, {Kind: 0, Data: "x"}},
	} {
		for _, flags := range []int{0, 16} {
			have := roomy(l)
			before := wholeOf(have)
			g := segment(func(g *api.Segment) { g.Flags, g.Options = flags, have })
			tcp.Write(g, from, to)
			tcp.Mss(g)
			got := tcp.Move(g, 1, 2)
			if !slices.Equal(wholeOf(have), before) {
				t.Errorf("%v was changed", l)
			}
			kept := slices.Clone(got.Options)
			spoil(have)
			if !slices.Equal(got.Options, kept) {
				t.Errorf("Move of %v answers with what was handed in", l)
			}
			g.Options = roomy(l)
			spoil(got.Options)
			if again := tcp.Move(g, 1, 2); !slices.Equal(again.Options, kept) || !slices.Equal(wholeOf(g.Options), before) {
				t.Errorf("Move of %v keeps what it answered", l)
			}
		}
	}
}

// P2: nothing is kept from call to call, and what is handed in stays as it was.
func TestNothingIsKept(t *testing.T) {
	type answer struct {
		read, moved api.Segment
		written     string
		mss         int
		ok          bool
		e           [2]api.Errno
	}
	with := func(options ...api.Option) string {
		return segmentText(segment(func(g *api.Segment) { g.Options = options }), from, to)
	}
	texts := func() []string {
		s := with(api.Option{Kind: 2, Data: "\x05\xb4"}, api.Option{Kind: 5, Data: zeros(8)})
		return []string{"", s, with(), with(api.Option{Kind: 1}), s[:20], s + "x", put(s, 12, "\x40"), put(s, 20, "\x02\x00"), put(s, 16, "\x00\x00"), long(70000), zeros(40)}
	}
	list := texts()
	ask := func(i int) (a answer) {
		g := segment(func(g *api.Segment) { g.Flags, g.Data = 15+i, list[i] })
		g.Options = []api.Option{{Kind: i, Data: list[i][:min(i, len(list[i]))]}, {Kind: 5, Data: long(8)}, {Kind: 2, Data: word(i)}}
		before := g
		before.Options = slices.Clone(g.Options)
		a.read, a.e[0] = tcp.Read(list[i], from, to)
		a.written, a.e[1] = tcp.Write(g, from, to)
		a.mss, a.ok = tcp.Mss(g)
		a.moved = tcp.Move(g, uint32(i), 9)
		if !same(g, before) {
			t.Errorf("segment %d was changed", i)
		}
		return a
	}
	first := make([]answer, len(list))
	for i := range list {
		first[i] = ask(i)
	}
	for i := len(list) - 1; i >= 0; i-- {
		again := ask(i)
		if !reflect.DeepEqual(again, first[i]) {
			t.Errorf("text %d is answered otherwise when it is asked again", i)
		}
		// What was answered is the asker's: spoiling it changes no other answer.
		kept := slices.Clone(first[i].read.Options)
		spoil(again.read.Options)
		spoil(again.moved.Options)
		if !slices.Equal(first[i].read.Options, kept) || !reflect.DeepEqual(ask(i), first[i]) {
			t.Errorf("text %d: two answers share a list", i)
		}
	}
	for i, s := range texts() {
		if list[i] != s {
			t.Errorf("text %d was changed", i)
		}
	}
}
