package cookie_test

import (
	"encoding/binary"
	"math"
	"testing"

	"customshouse/api"
	"customshouse/cookie"
	"customshouse/sip"
)

const most = math.MaxUint64

// key is the secret whose bytes are 0 to 15.
func key() api.Secret {
	return api.Secret{0x0706050403020100, 0x0f0e0d0c0b0a0908}
}

func road() api.Road {
	return api.Road{From: 0xc0a80001, To: 0x0a000002, FromPort: 50000, ToPort: 80}
}

func sizes() [8]int {
	return [8]int{216, 536, 1220, 1300, 1360, 1440, 1460, 8960}
}

func secrets() []api.Secret {
	return []api.Secret{key(), {}, {1, 0}, {0, 1}, {0, 1 << 63}, {most, most}, {0x0123456789abcdef, 0xfedcba9876543210}}
}

// roads have the least and the greatest ports, and the same ones in each other's place.
func roads() []api.Road {
	return []api.Road{
		road(), {}, {From: 0x0a000002, To: 0xc0a80001, FromPort: 80, ToPort: 50000},
		{From: math.MaxUint32, To: math.MaxUint32, FromPort: 65535, ToPort: 65535},
		{FromPort: 65535}, {ToPort: 65535}, {From: 1}, {To: 1}, {From: 1 << 31, To: 0x01020304, FromPort: 256, ToPort: 255},
	}
}

func seqs() []uint32 {
	return []uint32{0, 1, 7, 255, 256, 0x01020304, 1 << 31, math.MaxUint32 - 1, math.MaxUint32}
}

// beyond is what no port, count, index or now may be; some of it would be in bounds, if its high bits were lost.
func beyond(many int) []int {
	return []int{
		-1, -2, -many, -many - 1, -many + 1, many, many + 1, 2 * many, 65536, 65537, -65536, -65535, 1 << 20,
		1 << 32, 1<<32 + 1, -1 << 32, math.MaxInt, math.MaxInt - 1, math.MinInt, math.MinInt + 1,
	}
}

// brokenRoads have one port, or both, out of its bounds.
func brokenRoads() []api.Road {
	var list []api.Road
	for _, n := range beyond(65536) {
		w := road()
		w.FromPort = n
		list = append(list, w)
		w = road()
		w.ToPort = n
		list = append(list, w)
		w.FromPort = n
		list = append(list, w)
	}
	return list
}

// madeOf is a cookie by the words of P9.2.
func madeOf(k api.Secret, w api.Road, seq uint32, count, index int) (uint32, api.Errno) {
	for _, x := range []struct{ n, last int }{{w.FromPort, 65535}, {w.ToPort, 65535}, {count, 31}, {index, 7}} {
		if x.n < 0 || x.n > x.last {
			return 0, api.ErrArg
		}
	}
	var b []byte
	b = binary.BigEndian.AppendUint32(b, w.From)
	b = binary.BigEndian.AppendUint32(b, w.To)
	b = binary.BigEndian.AppendUint16(b, uint16(w.FromPort))
	b = binary.BigEndian.AppendUint16(b, uint16(w.ToPort))
	b = binary.BigEndian.AppendUint32(b, seq)
	b = append(b, byte(count), byte(index))
	return uint32(134217728*uint64(count) + 16777216*uint64(index) + sip.Of(k, string(b))%16777216), api.OK
}

// openedOf is what a cookie tells by the words of P9.3.
func openedOf(k api.Secret, w api.Road, seq, made uint32, now int) (int, api.Errno) {
	if _, e := madeOf(k, w, seq, now, 0); e != api.OK {
		return 0, e
	}
	count, index := int(made/134217728), int(made/16777216%8)
	ahead := now - 1
	if now == 0 {
		ahead = 31
	}
	if count != now && count != ahead {
		return 0, api.ErrState
	}
	if c, _ := madeOf(k, w, seq, count, index); c != made {
		return 0, api.ErrSum
	}
	return sizes()[index], api.OK
}

// bake says that Make is OK.
func bake(t *testing.T, k api.Secret, w api.Road, seq uint32, count, index int) uint32 {
	t.Helper()
	made, e := cookie.Make(k, w, seq, count, index)
	if e != api.OK {
		t.Fatalf("Make(%#x, %+v, %d, %d, %d): error %d", k, w, seq, count, index, e)
	}
	return made
}

func opens(t *testing.T, k api.Secret, w api.Road, seq, made uint32, now, size int, want api.Errno) {
	t.Helper()
	if got, e := cookie.Open(k, w, seq, made, now); got != size || e != want {
		t.Errorf("Open(%#x, %+v, %d, %#x, %d) = %d, error %d; want %d, error %d", k, w, seq, made, now, got, e, size, want)
	}
}

// P9.1.
func TestSizes(t *testing.T) {
	if got := cookie.Sizes(); got != sizes() {
		t.Errorf("Sizes() = %v", got)
	}
}

// P2: what is done with the answer changes no other one.
func TestSizesAreNew(t *testing.T) {
	mine := cookie.Sizes()
	for i := range mine {
		mine[i] = -1
	}
	if got := cookie.Sizes(); got != sizes() {
		t.Errorf("Sizes() = %v, when an earlier answer was changed", got)
	}
	if got := cookie.Index(1460); got != 6 {
		t.Errorf("Index(1460) = %d, when an earlier answer of Sizes was changed", got)
	}
	made := bake(t, key(), road(), 7, 5, 6)
	opens(t, key(), road(), 7, made, 5, 1460, api.OK)
}

// P9.1, and example 9 of the document.
func TestIndex(t *testing.T) {
	for _, c := range []struct{ size, want int }{
		{math.MinInt, 0}, {-8960, 0}, {-217, 0}, {-1, 0}, {0, 0}, {1, 0}, {215, 0}, {216, 0}, {217, 0},
		{535, 0}, {536, 1}, {537, 1}, {1219, 1}, {1220, 2}, {1221, 2}, {1299, 2}, {1300, 3}, {1301, 3},
		{1359, 3}, {1360, 4}, {1361, 4}, {1439, 4}, {1440, 5}, {1441, 5}, {1459, 5}, {1460, 6}, {1461, 6},
		{1500, 6}, {8959, 6}, {8960, 7}, {8961, 7}, {65535, 7}, {65536, 7}, {1<<32 + 216, 7}, {math.MaxInt, 7},
	} {
		if got := cookie.Index(c.size); got != c.want {
			t.Errorf("Index(%d) = %d, want %d", c.size, got, c.want)
		}
	}
}

// P9.1: no place behind it has a size that is at most this one, and its own is, if any is.
func TestIndexOfEachSize(t *testing.T) {
	for size := -300; size < 9300; size++ {
		place := cookie.Index(size)
		if place < 0 || place > 7 {
			t.Fatalf("Index(%d) = %d", size, place)
		}
		if place > 0 && sizes()[place] > size || place < 7 && sizes()[place+1] <= size {
			t.Errorf("Index(%d) = %d", size, place)
		}
	}
}

// P9.2.
func TestMake(t *testing.T) {
	w, local := road(), api.Road{From: 0x7f000001, To: 0x7f000001, FromPort: 1, ToPort: 65535}
	last := api.Road{From: math.MaxUint32, To: math.MaxUint32, FromPort: 65535, ToPort: 65535}
	for _, c := range []struct {
		k            api.Secret
		w            api.Road
		seq          uint32
		count, index int
		want         uint32
	}{
		{key(), api.Road{}, 0, 0, 0, 0x00350f50},
		{key(), api.Road{}, 0, 31, 7, 0xfff882ee},
		{key(), w, 7, 5, 6, 0x2e0949ec},
		{key(), w, 7, 5, 7, 0x2f6f8e41},
		{key(), w, 7, 6, 6, 0x36e16038},
		{key(), w, 8, 5, 6, 0x2ed8c6b7},
		{key(), api.Road{From: w.From, To: w.To, FromPort: 50000, ToPort: 81}, 7, 5, 6, 0x2ec09e41},
		{key(), api.Road{From: w.From, To: w.To, FromPort: 50001, ToPort: 80}, 7, 5, 6, 0x2e052c8d},
		{key(), api.Road{From: w.From, To: 0x0a000003, FromPort: 50000, ToPort: 80}, 7, 5, 6, 0x2e5b4555},
		{key(), api.Road{From: 0xc0a80002, To: w.To, FromPort: 50000, ToPort: 80}, 7, 5, 6, 0x2e7ba50c},
		{key(), api.Road{From: w.To, To: w.From, FromPort: 80, ToPort: 50000}, 7, 5, 6, 0x2eb66b8b},
		{
			key(), api.Road{From: 0x01020304, To: 0x05060708, FromPort: 0x090a, ToPort: 0x0b0c}, 0x0d0e0f10, 17, 1,
			0x89b4d30c,
		},
		{key(), last, math.MaxUint32, 31, 7, 0xffafe08d},
		{key(), last, math.MaxUint32, 0, 0, 0x00eb1b17},
		{key(), api.Road{From: 1 << 31, To: 1, FromPort: 32768, ToPort: 1}, 1 << 31, 16, 4, 0x84c5ba45},
		{api.Secret{}, api.Road{}, 0, 0, 0, 0x00406174},
		{api.Secret{}, w, 7, 5, 6, 0x2e44e3e5},
		{api.Secret{most, most}, w, 7, 5, 6, 0x2e0d9efd},
		{api.Secret{1, 0}, w, 7, 5, 6, 0x2e4f98d6},
		{api.Secret{0, 1}, w, 7, 5, 6, 0x2e9af4b7},
		{api.Secret{0, most}, local, 0xfffffffe, 30, 3, 0xf3e9f086},
		{api.Secret{most, 0}, api.Road{From: local.From, To: local.To, FromPort: 65535, ToPort: 1}, 0xfffffffe, 1, 2, 0x0a3b5809},
	} {
		if got := bake(t, c.k, c.w, c.seq, c.count, c.index); got != c.want {
			t.Errorf("Make(%#x, %+v, %d, %d, %d) = %#x, want %#x", c.k, c.w, c.seq, c.count, c.index, got, c.want)
		}
	}
}

// P9.2: each count and each index stand where they are to, whatever else a cookie is made of.
func TestMakeOfAll(t *testing.T) {
	for _, k := range secrets() {
		for _, w := range roads() {
			for _, seq := range seqs() {
				for count := range 32 {
					for index := range 8 {
						got := bake(t, k, w, seq, count, index)
						if want, _ := madeOf(k, w, seq, count, index); got != want {
							t.Fatalf("Make(%#x, %+v, %d, %d, %d) = %#x, want %#x", k, w, seq, count, index, got, want)
						}
					}
				}
			}
		}
	}
}

// P9.2: each bit of what a cookie is made of changes it.
func TestMakeKnowsEachBit(t *testing.T) {
	old := bake(t, key(), road(), 7, 5, 6)
	differs := func(what string, bit int, k api.Secret, w api.Road, seq uint32) {
		t.Helper()
		if got := bake(t, k, w, seq, 5, 6); got == old || got>>24 != old>>24 {
			t.Errorf("with another bit %d of its %s: %#x, and before %#x", bit, what, got, old)
		}
	}
	for bit := range 64 {
		k, l := key(), key()
		k[0] ^= 1 << bit
		l[1] ^= 1 << bit
		differs("first key", bit, k, road(), 7)
		differs("second key", bit, l, road(), 7)
	}
	for bit := range 32 {
		v, w := road(), road()
		v.From ^= 1 << bit
		w.To ^= 1 << bit
		differs("From", bit, key(), v, 7)
		differs("To", bit, key(), w, 7)
		differs("seq", bit, key(), road(), 7^1<<bit)
	}
	for bit := range 16 {
		v, w := road(), road()
		v.FromPort ^= 1 << bit
		w.ToPort ^= 1 << bit
		differs("FromPort", bit, key(), v, 7)
		differs("ToPort", bit, key(), w, 7)
	}
}

// P9.2: what is out of its bounds, one at a time and all at once.
func TestMakeOutOfBounds(t *testing.T) {
	refuses := func(w api.Road, count, index int) {
		t.Helper()
		if got, e := cookie.Make(key(), w, 7, count, index); got != 0 || e != api.ErrArg {
			t.Errorf("Make(%+v, %d, %d) = %#x, error %d", w, count, index, got, e)
		}
	}
	for _, w := range brokenRoads() {
		refuses(w, 5, 6)
		refuses(w, 32, 8)
	}
	for _, n := range beyond(32) {
		refuses(road(), n, 6)
		refuses(road(), n, -1)
	}
	for _, n := range beyond(8) {
		refuses(road(), 5, n)
		refuses(road(), -1, n)
	}
}

// P9.3.
func TestOpen(t *testing.T) {
	for _, c := range []struct {
		made uint32
		now  int
		size int
		want api.Errno
	}{
		{0x2e0949ec, 5, 1460, api.OK},
		{0x2e0949ec, 6, 1460, api.OK},
		{0x2e0949ec, 4, 0, api.ErrState},
		{0x2e0949ec, 7, 0, api.ErrState},
		{0x2e0949ec, 0, 0, api.ErrState},
		{0x2e0949ec, 31, 0, api.ErrState},
		{0x2e0949ec, 21, 0, api.ErrState},
		{0x2e0949ec, -1, 0, api.ErrArg},
		{0x2e0949ec, 32, 0, api.ErrArg},
		{0x2e0949ec, 37, 0, api.ErrArg},
		{0x2e0949ec, -27, 0, api.ErrArg},
		{0x2e0949ec, 1<<32 + 5, 0, api.ErrArg},
		{0x2e0949ed, 5, 0, api.ErrSum},
		{0x2e0949ed, 6, 0, api.ErrSum},
		{0x2e0949ed, 7, 0, api.ErrState},
		{0x2e0949ed, 32, 0, api.ErrArg},
		{0x2f6f8e41, 5, 8960, api.OK},
		{0x2f0949ec, 5, 0, api.ErrSum},
		{0x2e6f8e41, 5, 0, api.ErrSum},
		{0x36e16038, 6, 1460, api.OK},
		{0x36e16038, 7, 1460, api.OK},
		{0x36e16038, 5, 0, api.ErrState},
		{0x360949ec, 6, 0, api.ErrSum},
		{0x2ee16038, 6, 0, api.ErrSum},
		{0, 5, 0, api.ErrState},
		{0, 0, 0, api.ErrSum},
		{0, 1, 0, api.ErrSum},
		{math.MaxUint32, 5, 0, api.ErrState},
		{math.MaxUint32, 31, 0, api.ErrSum},
		{math.MaxUint32, 0, 0, api.ErrSum},
	} {
		opens(t, key(), road(), 7, c.made, c.now, c.size, c.want)
	}
	opens(t, key(), api.Road{}, 0, 0x00350f50, 0, 216, api.OK)
	opens(t, key(), api.Road{}, 0, 0x00350f50, 1, 216, api.OK)
	opens(t, key(), api.Road{}, 0, 0x00350f50, 31, 0, api.ErrState)
	opens(t, key(), api.Road{}, 0, 0xfff882ee, 31, 8960, api.OK)
	opens(t, key(), api.Road{}, 0, 0xfff882ee, 0, 8960, api.OK)
	opens(t, key(), api.Road{}, 0, 0xfff882ee, 1, 0, api.ErrState)
	opens(t, key(), api.Road{}, 0, 0xfff882ee, 30, 0, api.ErrState)
}

// P9.3: each count at each now, and each index.
func TestOpenAtEachTime(t *testing.T) {
	for count := range 32 {
		for index, size := range sizes() {
			made := bake(t, key(), road(), 7, count, index)
			for now := range 32 {
				switch now {
				case count, (count + 1) % 32:
					opens(t, key(), road(), 7, made, now, size, api.OK)
					opens(t, key(), road(), 7, made^1, now, 0, api.ErrSum)
				default:
					opens(t, key(), road(), 7, made, now, 0, api.ErrState)
					opens(t, key(), road(), 7, made^1, now, 0, api.ErrState)
				}
			}
		}
	}
}

// P9.3: a cookie opens by the secret, the road and the seq that it was made of, and by no other.
func TestOpenByAnother(t *testing.T) {
	made := bake(t, key(), road(), 7, 5, 6)
	for _, k := range secrets() {
		for _, w := range roads() {
			for _, seq := range seqs() {
				if k == key() && w == road() && seq == 7 {
					opens(t, k, w, seq, made, 5, 1460, api.OK)
				} else {
					opens(t, k, w, seq, made, 5, 0, api.ErrSum)
				}
			}
		}
	}
}

// P9.3: no bit of a cookie may be another one.
func TestOpenOfATouchedCookie(t *testing.T) {
	for _, c := range []struct{ count, now int }{{5, 5}, {5, 6}, {31, 31}, {31, 0}, {0, 0}, {0, 1}} {
		for index, size := range sizes() {
			made := bake(t, key(), road(), 7, c.count, index)
			opens(t, key(), road(), 7, made, c.now, size, api.OK)
			for bit := range 32 {
				touched := made ^ 1<<bit
				_, want := openedOf(key(), road(), 7, touched, c.now)
				if want == api.OK {
					t.Fatalf("%#x opens as %#x does", touched, made)
				}
				opens(t, key(), road(), 7, touched, c.now, 0, want)
			}
		}
	}
}

// P9.3: what is out of its bounds is told ahead of what is wrong with the cookie.
func TestOpenOutOfBounds(t *testing.T) {
	made := bake(t, key(), road(), 7, 5, 6)
	for _, c := range []uint32{made, made ^ 1, 0, math.MaxUint32} {
		for _, now := range []int{4, 5, 6, 32} {
			for _, w := range brokenRoads() {
				opens(t, key(), w, 7, c, now, 0, api.ErrArg)
			}
		}
		for _, now := range beyond(32) {
			opens(t, key(), road(), 7, c, now, 0, api.ErrArg)
		}
	}
}

// P9.2, P9.3: any inputs, most of them out of their bounds or made of something else.
func TestAnyInputs(t *testing.T) {
	n := uint64(5)
	next := func(list ...int) int {
		n = n*6364136223846793005 + 1442695040888963407
		return list[(n>>33)%uint64(len(list))]
	}
	ks, ws := secrets(), roads()
	for range 200000 {
		k, w := ks[next(0, 0, 1, 2, 3, 4, 5, 6)], ws[next(0, 0, 1, 2, 3, 4, 5, 6, 7, 8)]
		w.FromPort = next(w.FromPort, w.FromPort, w.FromPort, 0, 65535, 65536, -1, math.MaxInt, math.MinInt)
		w.ToPort = next(w.ToPort, w.ToPort, w.ToPort, 0, 65535, 65536, -1, math.MaxInt, math.MinInt)
		seq := seqs()[next(0, 1, 2, 3, 4, 5, 6, 7, 8)]
		count, index := next(0, 1, 5, 30, 31, 32, -1), next(0, 1, 2, 3, 4, 5, 6, 7, 8, -1)
		made, e := cookie.Make(k, w, seq, count, index)
		if want, f := madeOf(k, w, seq, count, index); made != want || e != f {
			t.Fatalf("Make(%#x, %+v, %d, %d, %d) = %#x, error %d; want %#x, error %d", k, w, seq, count, index, made, e, want, f)
		}
		made ^= uint32(next(0, 0, 0, 1, 1<<23, 1<<24, 1<<27))
		seq += uint32(next(0, 0, 0, 1))
		now := next(count, count+1, (count+1)%32, 0, 31, 32, -1)
		size, f := openedOf(k, w, seq, made, now)
		opens(t, k, w, seq, made, now, size, f)
	}
}

// P2: what is answered hangs on what was handed in, not on what was asked ahead of it.
func TestEveryCallAnswersTheSameAgain(t *testing.T) {
	type answer struct {
		made  uint32
		size  int
		e, f  api.Errno
		place int
		sizes [8]int
	}
	ks, ws, ns := secrets(), roads(), seqs()
	ask := func(i int) (a answer) {
		k, w, seq := ks[i%len(ks)], ws[i%len(ws)], ns[i%len(ns)]
		a.made, a.e = cookie.Make(k, w, seq, i%33, i%9)
		a.size, a.f = cookie.Open(k, w, seq, a.made, (i+i%2)%33)
		a.place, a.sizes = cookie.Index(i), cookie.Sizes()
		return a
	}
	first := make([]answer, 9000)
	for i := range first {
		first[i] = ask(i)
	}
	for i := len(first) - 1; i >= 0; i-- {
		if ask(i) != first[i] {
			t.Errorf("call %d is answered otherwise when it is asked again", i)
		}
	}
}
