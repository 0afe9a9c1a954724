package sip_test

import (
	"encoding/binary"
	"math"
	"slices"
	"strings"
	"testing"

	"customshouse/api"
	"customshouse/sip"
)

const most = math.MaxUint64

// key is the secret whose bytes are 0 to 15.
func key() api.Secret {
	return api.Secret{0x0706050403020100, 0x0f0e0d0c0b0a0908}
}

// counted is the text of the bytes 0, 1, 2 and so on.
func counted(long int) string {
	b := make([]byte, long)
	for i := range b {
		b[i] = byte(i)
	}
	return string(b)
}

// secrets are those whose bits are all alike, or all but one, and some more.
func secrets() []api.Secret {
	return []api.Secret{
		key(), {}, {most, most}, {0, most}, {most, 0}, {1, 0}, {0, 1}, {1 << 63, 0}, {0, 1 << 63},
		{0x0123456789abcdef, 0xfedcba9876543210},
		{8317987319222330741, 7237128888997146477}, {7816392313619706465, 8387220255154660723},
	}
}

// texts are of every length up to 80, and some of more.
func texts() []string {
	list := []string{
		"\x80", "\xff", "\x00\x00\x00\x00\x00\x00\x00", "\xff\xff\xff\xff\xff\xff\xff\xff", "not \xc3( in utf-8 \xff\xfe",
		strings.Repeat("\x00", 255), strings.Repeat("\x00", 256), strings.Repeat("\xff", 257), strings.Repeat("xyz", 5000),
	}
	n := uint32(1)
	for long := range 81 {
		s := make([]byte, long)
		for i := range s {
			n = n*1664525 + 1013904223
			s[i] = byte(n >> 24)
		}
		list = append(list, string(s))
	}
	return list
}

// turned moves one bit at a time.
func turned(x uint64, by int) uint64 {
	for range by {
		top := x / (1 << 63)
		x = x*2 + top
	}
	return x
}

// roundOf does a round by its words, one after the other.
func roundOf(v *[4]uint64) {
	v[0] = v[0] + v[1]
	v[1] = turned(v[1], 13)
	v[1] = v[1] ^ v[0]
	v[0] = turned(v[0], 32)
	v[2] = v[2] + v[3]
	v[3] = turned(v[3], 16)
	v[3] = v[3] ^ v[2]
	v[0] = v[0] + v[3]
	v[3] = turned(v[3], 21)
	v[3] = v[3] ^ v[0]
	v[2] = v[2] + v[1]
	v[1] = turned(v[1], 17)
	v[1] = v[1] ^ v[2]
	v[2] = turned(v[2], 32)
}

func takeOf(v *[4]uint64, m uint64) {
	v[3] = v[3] ^ m
	roundOf(v)
	roundOf(v)
	v[0] = v[0] ^ m
}

// sipOf is what stands behind a text, by the words of P8.1 to P8.3.
func sipOf(k api.Secret, s string) api.Sip {
	x := api.Sip{V: [4]uint64{
		k[0] ^ 8317987319222330741, k[1] ^ 7237128888997146477, k[0] ^ 7816392313619706465, k[1] ^ 8387220255154660723,
	}}
	for part := range slices.Chunk([]byte(s), 8) {
		if len(part) < 8 {
			x.Part = string(part)
		} else {
			takeOf(&x.V, binary.LittleEndian.Uint64(part))
		}
	}
	x.N = len(s)
	return x
}

// endOf is what P8.4 tells of it.
func endOf(x api.Sip) uint64 {
	var last [8]byte
	copy(last[:], x.Part)
	last[7] = byte(x.N % 256)
	takeOf(&x.V, binary.LittleEndian.Uint64(last[:]))
	x.V[2] = x.V[2] ^ 255
	for range 4 {
		roundOf(&x.V)
	}
	return x.V[0] ^ x.V[1] ^ x.V[2] ^ x.V[3]
}

// more says that More is OK.
func more(t *testing.T, x api.Sip, s string) api.Sip {
	t.Helper()
	y, e := sip.More(x, s)
	if e != api.OK {
		t.Fatalf("More(%+v, %.30q of %d bytes): error %d", x, s, len(s), e)
	}
	return y
}

// end says that End is OK.
func end(t *testing.T, x api.Sip) uint64 {
	t.Helper()
	n, e := sip.End(x)
	if e != api.OK {
		t.Fatalf("End(%+v): error %d", x, e)
	}
	return n
}

// P8.1.
func TestBegin(t *testing.T) {
	for _, c := range []struct {
		k api.Secret
		v [4]uint64
	}{
		{api.Secret{}, [4]uint64{8317987319222330741, 7237128888997146477, 7816392313619706465, 8387220255154660723}},
		{key(), [4]uint64{0x7469686173716475, 0x6b617f6d656e6665, 0x6b7f62616d677361, 0x7b6b696e727e6c7b}},
		{api.Secret{most, most}, [4]uint64{0x8c90929a8f8c9a8a, 0x9b908d9e919b9092, 0x9386989a919a8d9e, 0x8b9a9b9d868b9a8c}},
		{api.Secret{most, 0}, [4]uint64{0x8c90929a8f8c9a8a, 0x646f72616e646f6d, 0x9386989a919a8d9e, 0x7465646279746573}},
		{api.Secret{0, most}, [4]uint64{0x736f6d6570736575, 0x9b908d9e919b9092, 0x6c7967656e657261, 0x8b9a9b9d868b9a8c}},
		{
			api.Secret{8317987319222330741, 7237128888997146477},
			[4]uint64{0, 0, 0x736f6d6570736575 ^ 0x6c7967656e657261, 0x646f72616e646f6d ^ 0x7465646279746573},
		},
		{
			api.Secret{7816392313619706465, 8387220255154660723},
			[4]uint64{0x736f6d6570736575 ^ 0x6c7967656e657261, 0x646f72616e646f6d ^ 0x7465646279746573, 0, 0},
		},
	} {
		if got := sip.Begin(c.k); got != (api.Sip{V: c.v}) {
			t.Errorf("Begin(%#x) = %+v", c.k, got)
		}
	}
}

// P8.1: each bit of the secret is in two of the numbers, and in no other.
func TestBeginKnowsEachBit(t *testing.T) {
	for _, k := range secrets() {
		for i := range 2 {
			for bit := range 64 {
				l := k
				l[i] ^= 1 << bit
				v, w := sip.Begin(k).V, sip.Begin(l).V
				for j := range 4 {
					want := uint64(0)
					if j%2 == i {
						want = 1 << bit
					}
					if v[j]^w[j] != want {
						t.Errorf("Begin(%#x) and Begin(%#x): number %d is %#x and %#x", k, l, j, v[j], w[j])
					}
				}
			}
		}
	}
}

// P8.2: what eight bytes make of V.
func TestTakingANumber(t *testing.T) {
	ones := [4]uint64{most, most, most, most}
	begun := [4]uint64{0x7469686173716475, 0x6b617f6d656e6665, 0x6b7f62616d677361, 0x7b6b696e727e6c7b}
	for _, c := range []struct {
		v    [4]uint64
		s    string
		want [4]uint64
	}{
		{[4]uint64{}, "\x00\x00\x00\x00\x00\x00\x00\x00", [4]uint64{}},
		{
			[4]uint64{}, "\x01\x00\x00\x00\x00\x00\x00\x00",
			[4]uint64{0x0021000200200000, 0x2340262003, 0x0022200300000021, 0x0021040200000401},
		},
		{
			[4]uint64{}, "\x00\x00\x00\x00\x00\x00\x00\x80",
			[4]uint64{0x0010800000100000, 0x80000011a0111000, 0x8011100080000010, 0x8010820000000200},
		},
		{
			ones, "\x00\x00\x00\x00\x00\x00\x00\x00",
			[4]uint64{0xfffeffdf001efffe, 0x0280044021ffff, 0x04021ffff00000000, 0x041efc3f001effe1},
		},
		{
			begun, "\x00\x01\x02\x03\x04\x05\x06\x07",
			[4]uint64{0x4a017198de0a59e0, 0x0d52f6f62a4f59a4, 0x634cb3577b01fd3d, 0xa5224d6f55c7d9c8},
		},
		{
			begun, "\x00\x01\x02\x03\x04\x05\x06\x07\x08\x09\x0a\x0b\x0c\x0d\x0e\x0f",
			[4]uint64{0x3c85b3ab6f55be51, 0x414fc3fb98efe374, 0xccf13ea527b9f4bd, 0x5293f5da84008f82},
		},
	} {
		x := more(t, api.Sip{V: c.v, N: 16}, c.s)
		if x != (api.Sip{V: c.want, N: 16 + len(c.s)}) {
			t.Errorf("%#x, and %q: %#x", c.v, c.s, x)
		}
	}
}

// P8.2: any V, and any number.
func TestTakingAnyNumber(t *testing.T) {
	n := uint64(11)
	random := func() uint64 {
		n = n*6364136223846793005 + 1442695040888963407
		return turned(n, int(n>>58))
	}
	for range 2000 {
		v := [4]uint64{random(), random(), random(), random()}
		m, want := random(), v
		takeOf(&want, m)
		s := string(binary.LittleEndian.AppendUint64(nil, m))
		if x := more(t, api.Sip{V: v}, s); x != (api.Sip{V: want, N: 8}) {
			t.Errorf("%#x, and %#x: %#x, want %#x", v, m, x, want)
		}
	}
}

// P8.3.
func TestMore(t *testing.T) {
	x := sip.Begin(key())
	for _, c := range []struct {
		s, part string
		n       int
		taken   bool
	}{
		{"", "", 0, false},
		{"\x00\x01\x02", "\x00\x01\x02", 3, false},
		{"", "\x00\x01\x02", 3, false},
		{"\x03\x04\x05\x06", "\x00\x01\x02\x03\x04\x05\x06", 7, false},
		{"\x07", "", 8, true},
		{"\x08", "\x08", 9, false},
		{"\x09\x0a\x0b\x0c\x0d\x0e\x0f\x10", "\x10", 17, true},
		{counted(39)[17:], "\x20\x21\x22\x23\x24\x25\x26", 39, true},
		{counted(56)[39:], "", 56, true},
		{counted(63)[56:], "\x38\x39\x3a\x3b\x3c\x3d\x3e", 63, false},
	} {
		old := x.V
		x = more(t, x, c.s)
		if x.Part != c.part || x.N != c.n {
			t.Errorf("behind %q: Part %q, N %d", c.s, x.Part, x.N)
		}
		if taken := x.V != old; taken != c.taken {
			t.Errorf("behind %q: V %#x, and before it %#x", c.s, x.V, old)
		}
	}
	if got := end(t, x); got != 0x958a324ceb064572 {
		t.Errorf("End(%+v) = %#x", x, got)
	}
}

// P8.3: a text at once is what stands behind it by the words.
func TestMoreOfWholeTexts(t *testing.T) {
	for _, k := range secrets() {
		for _, s := range texts() {
			want := sipOf(k, s)
			if x := more(t, sip.Begin(k), s); x != want {
				t.Errorf("More of %#x and %.30q of %d bytes = %+v, want %+v", k, s, len(s), x, want)
			}
		}
	}
}

// P8.3: however a text is cut, the same stands behind it.
func TestMoreOfCutTexts(t *testing.T) {
	s := texts()[50]
	want := sipOf(key(), s)
	for i := range len(s) + 1 {
		for j := i; j <= len(s); j++ {
			x := more(t, more(t, more(t, sip.Begin(key()), s[:i]), s[i:j]), s[j:])
			if x != want {
				t.Errorf("cut at %d and %d: %+v, want %+v", i, j, x, want)
			}
		}
	}
	for size := 1; size < 20; size++ {
		for _, s := range texts() {
			x := sip.Begin(key())
			for part := range slices.Chunk([]byte(s), size) {
				x = more(t, x, string(part))
			}
			if want := sipOf(key(), s); x != want {
				t.Errorf("%.30q of %d bytes, %d at once: %+v, want %+v", s, len(s), size, x, want)
			}
		}
	}
}

// P8.3, P8.4: what is not in its form is told as it was, and has no number.
func TestNotInForm(t *testing.T) {
	v := [4]uint64{1, 2, 3, 4}
	for _, x := range []api.Sip{
		{N: 1},
		{N: 7},
		{N: 9},
		{N: -1},
		{N: -8},
		{N: -256},
		{N: math.MinInt},
		{N: math.MinInt + 1},
		{N: math.MaxInt},
		{N: math.MaxInt - 1},
		{Part: "a"},
		{Part: "abcdefg"},
		{Part: "abcdefgh"},
		{Part: "abcdefghi"},
		{V: v, Part: "a", N: 8},
		{V: v, Part: "a", N: 2},
		{V: v, Part: "ab", N: 1},
		{V: v, Part: "a", N: -1},
		{V: v, Part: "a", N: -7},
		{V: v, Part: "abcdefg", N: 6},
		{V: v, Part: "abcdefg", N: 8},
		{V: v, Part: "abcdefg", N: -1},
		{V: v, Part: "abcdefgh", N: 0},
		{V: v, Part: "abcdefgh", N: 8},
		{V: v, Part: "abcdefgh", N: 16},
		{V: v, Part: "abcdefghi", N: 1},
		{V: v, Part: "abcdefghi", N: 9},
		{V: v, Part: strings.Repeat("a", 256), N: 256},
		{V: v, Part: strings.Repeat("a", 70000), N: 70000},
	} {
		for _, s := range []string{"", "a", "1234567", "12345678", strings.Repeat("b", 1000)} {
			if y, e := sip.More(x, s); e != api.ErrForm || y != x {
				t.Errorf("More(%+v, %.10q) = %+v, error %d", x, s, y, e)
			}
		}
		if n, e := sip.End(x); e != api.ErrForm || n != 0 {
			t.Errorf("End(%+v) = %#x, error %d", x, n, e)
		}
	}
}

// P8.3, P8.4: of each N and each length of Part just one pair in eight is in its form.
func TestInForm(t *testing.T) {
	for n := -40; n <= 600; n++ {
		for long := range 20 {
			x := api.Sip{V: [4]uint64{5, 6, 7, 8}, Part: counted(long), N: n}
			want := api.ErrForm
			if long <= 7 && n >= 0 && n%8 == long {
				want = api.OK
			}
			if _, e := sip.More(x, "abc"); e != want {
				t.Errorf("More of N %d and %d bytes: error %d", n, long, e)
			}
			number, e := sip.End(x)
			if e != want {
				t.Errorf("End of N %d and %d bytes: error %d", n, long, e)
			}
			if e == api.OK && number != endOf(x) {
				t.Errorf("End of N %d and %d bytes = %#x", n, long, number)
			}
		}
	}
}

// P8.4: of N only the lowest eight bits count.
func TestEndKnowsEightBits(t *testing.T) {
	x := api.Sip{V: [4]uint64{5, 6, 7, 8}, Part: "abc"}
	seen := map[uint64]int{}
	for n := 3; n < 259; n += 8 {
		x.N = n
		told := end(t, x)
		if old, ok := seen[told]; ok {
			t.Errorf("End tells the same of N %d and %d", old, n)
		}
		seen[told] = n
		for _, far := range []int{256, 512, 1 << 16, 1 << 30, math.MaxInt - math.MaxInt%256 - 256} {
			x.N = n + far
			if got := end(t, x); got != told {
				t.Errorf("End of N %d = %#x, and of %d = %#x", n, told, n+far, got)
			}
		}
	}
	x = api.Sip{Part: "abcdefg", N: math.MaxInt}
	if got := end(t, x); got != endOf(x) {
		t.Errorf("End(%+v) = %#x", x, got)
	}
}

// P8.4, and example 8 of the document: the bytes 0, 1, 2 and so on, from none to 63 of them, by the key of the bytes 0 to 15.
func TestOfCountedTexts(t *testing.T) {
	for long, want := range []uint64{
		0x726fdb47dd0e0e31, 0x74f839c593dc67fd, 0x0d6c8009d9a94f5a, 0x85676696d7fb7e2d,
		0xcf2794e0277187b7, 0x18765564cd99a68d, 0xcbc9466e58fee3ce, 0xab0200f58b01d137,
		0x93f5f5799a932462, 0x9e0082df0ba9e4b0, 0x7a5dbbc594ddb9f3, 0xf4b32f46226bada7,
		0x751e8fbc860ee5fb, 0x14ea5627c0843d90, 0xf723ca908e7af2ee, 0xa129ca6149be45e5,
		0x3f2acc7f57c29bdb, 0x699ae9f52cbe4794, 0x4bc1b3f0968dd39c, 0xbb6dc91da77961bd,
		0xbed65cf21aa2ee98, 0xd0f2cbb02e3b67c7, 0x93536795e3a33e88, 0xa80c038ccd5ccec8,
		0xb8ad50c6f649af94, 0xbce192de8a85b8ea, 0x17d835b85bbb15f3, 0x2f2e6163076bcfad,
		0xde4daaaca71dc9a5, 0xa6a2506687956571, 0xad87a3535c49ef28, 0x32d892fad841c342,
		0x7127512f72f27cce, 0xa7f32346f95978e3, 0x12e0b01abb051238, 0x15e034d40fa197ae,
		0x314dffbe0815a3b4, 0x027990f029623981, 0xcadcd4e59ef40c4d, 0x9abfd8766a33735c,
		0x0e3ea96b5304a7d0, 0xad0c42d6fc585992, 0x187306c89bc215a9, 0xd4a60abcf3792b95,
		0xf935451de4f21df2, 0xa9538f0419755787, 0xdb9acddff56ca510, 0xd06c98cd5c0975eb,
		0xe612a3cb9ecba951, 0xc766e62cfcadaf96, 0xee64435a9752fe72, 0xa192d576b245165a,
		0x0a8787bf8ecb74b2, 0x81b3e73d20b49b6f, 0x7fa8220ba3b2ecea, 0x245731c13ca42499,
		0xb78dbfaf3a8d83bd, 0xea1ad565322a1a0b, 0x60e61c23a3795013, 0x6606d7e446282b93,
		0x6ca4ecb15c5f91e1, 0x9f626da15c9625f3, 0xe51b38608ef25f57, 0x958a324ceb064572,
	} {
		if got := sip.Of(key(), counted(long)); got != want {
			t.Errorf("Of %d bytes = %#x, want %#x", long, got, want)
		}
	}
}

// P8.4: other secrets, and other texts.
func TestOfKnownTexts(t *testing.T) {
	for _, c := range []struct {
		k    api.Secret
		s    string
		want uint64
	}{
		{api.Secret{}, "", 0x1e924b9d737700d7},
		{api.Secret{}, "a", 0x96c20860cd93a249},
		{api.Secret{}, "customs", 0x87e18855509da7f5},
		{api.Secret{}, "customer", 0xb7f6315d77fb7060},
		{api.Secret{}, "customshouse", 0xc577857e05f1b65a},
		{api.Secret{most, most}, "", 0x35dd279ee86ce565},
		{api.Secret{most, most}, "customer", 0xcc97bd59e9ea9fb9},
		{api.Secret{0, most}, "customshouse", 0x1d5bc25cc3f263e6},
		{api.Secret{most, 0}, "customshouse", 0x19dcdc88a97d9dff},
		{api.Secret{1, 0}, "a", 0xb756d69b679d63d1},
		{api.Secret{0, 1}, "a", 0xce0f195d509eeb6e},
		{api.Secret{1 << 63, 0}, "customs", 0xa955ab88a1dda68b},
		{api.Secret{0x0123456789abcdef, 0xfedcba9876543210}, "customshouse", 0x7a36e681b8147913},
		{api.Secret{8317987319222330741, 7237128888997146477}, "", 0x5e1af489fd34e238},
		{api.Secret{7816392313619706465, 8387220255154660723}, "customs", 0xda4286338075b5d2},
		{key(), strings.Repeat("\x00", 7), 0xaab82dae3354313a},
		{key(), strings.Repeat("\x00", 8), 0x39d3851ca07681a7},
		{key(), strings.Repeat("\x00", 255), 0x91c97abab4cdbf56},
		{key(), strings.Repeat("\x00", 256), 0x7408248d2694d61c},
		{key(), strings.Repeat("\x00", 257), 0x95b2db4c59428646},
		{key(), strings.Repeat("\x00", 65536), 0xefb0b8ddc7715c49},
		{key(), strings.Repeat("\xff", 7), 0x00ac323c9a55b1dc},
		{key(), strings.Repeat("\xff", 8), 0x2a68ff30a3d9da34},
		{key(), strings.Repeat("\xff", 255), 0x0a13f5bfc90d46c4},
		{key(), strings.Repeat("\xff", 256), 0xa7eafdce7eaf859f},
		{key(), strings.Repeat("\xff", 257), 0x7954351b0a747ab1},
		{key(), strings.Repeat("\xff", 65536), 0x467e30c091bf4687},
		{key(), strings.Repeat("0123456789", 1<<17), 0x118c6339b154e877},
	} {
		if got := sip.Of(c.k, c.s); got != c.want {
			t.Errorf("Of(%#x, %.20q of %d bytes) = %#x, want %#x", c.k, c.s, len(c.s), got, c.want)
		}
	}
}

// P8.4: Of is Begin, More and End.
func TestOfIsAllThree(t *testing.T) {
	for _, k := range secrets() {
		for _, s := range texts() {
			got := sip.Of(k, s)
			if want := endOf(sipOf(k, s)); got != want {
				t.Errorf("Of(%#x, %.20q of %d bytes) = %#x, want %#x", k, s, len(s), got, want)
			}
			if n := end(t, more(t, sip.Begin(k), s)); got != n {
				t.Errorf("Of(%#x, %.20q of %d bytes) = %#x, and End %#x", k, s, len(s), got, n)
			}
		}
	}
}

// P2: a Sip that was handed in goes on as it was, whatever is made of it meanwhile.
func TestASipIsNotUsedUp(t *testing.T) {
	s := texts()[40]
	for cut := range len(s) + 1 {
		x := more(t, sip.Begin(key()), s[:cut])
		old := x
		n, y := end(t, x), more(t, x, s[cut:])
		more(t, x, "something else")
		if x != old || end(t, x) != n || more(t, x, s[cut:]) != y {
			t.Errorf("cut at %d: %+v, and before %+v", cut, x, old)
		}
		if got := end(t, y); got != sip.Of(key(), s) {
			t.Errorf("cut at %d: %#x", cut, got)
		}
	}
}

// P1: each call answers, also where N has no room for more bytes.
func TestMoreThanAnIntHas(t *testing.T) {
	x := api.Sip{V: [4]uint64{1, 2, 3, 4}, Part: "abcdefg", N: math.MaxInt}
	for _, s := range []string{"", "h", "hijklmnop", strings.Repeat("z", 5000)} {
		y, e := sip.More(x, s)
		if e != api.OK || len(y.Part) != (len(x.Part)+len(s))%8 {
			t.Errorf("More(%+v, %.10q) = %+v, error %d", x, s, y, e)
		}
		if _, e := sip.End(y); (e == api.ErrForm) != (s != "") {
			t.Errorf("End(%+v): error %d", y, e)
		}
	}
}

// P2: what is answered hangs on what was handed in, not on what was asked ahead of it.
func TestEveryCallAnswersTheSameAgain(t *testing.T) {
	type answer struct {
		begun, x api.Sip
		n, of    uint64
		e, f     api.Errno
	}
	all, list := secrets(), texts()
	ask := func(i int) (a answer) {
		k, s := all[i%len(all)], list[i%len(list)]
		a.begun, a.of = sip.Begin(k), sip.Of(k, s)
		a.x, a.e = sip.More(api.Sip{V: a.begun.V, Part: s[:min(len(s), i%9)], N: i - 20}, s)
		a.n, a.f = sip.End(a.x)
		return a
	}
	first := make([]answer, 3000)
	for i := range first {
		first[i] = ask(i)
	}
	for i := len(first) - 1; i >= 0; i-- {
		if ask(i) != first[i] {
			t.Errorf("call %d is answered otherwise when it is asked again", i)
		}
	}
}
