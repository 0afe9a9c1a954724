package table_test

import (
	"math"
	"math/big"
	"slices"
	"testing"

	"customshouse/api"
	"customshouse/table"
)

// u is a slot that is used, and none is one that isn't.
func u(key uint64, value int) api.Slot { return api.Slot{Used: true, Key: key, Value: value} }

func none() api.Slot { return api.Slot{} }

func of(slots ...api.Slot) api.Table { return api.Table{Slots: slots} }

func copyOf(t api.Table) api.Table {
	out := make([]api.Slot, len(t.Slots))
	copy(out, t.Slots)
	return api.Table{Slots: out}
}

func same(a, b api.Table) bool { return slices.Equal(a.Slots, b.Slots) }

func random(n *uint64, below int) int {
	*n = *n*6364136223846793005 + 1442695040888963407
	return int((*n >> 33) % uint64(below))
}

func sizes() []int { return []int{2, 4, 8, 16, 32, 64} }

// beyond is what bits may not be; some of it would be in bounds, if its high bits were lost.
func beyond() []int {
	return []int{
		0, -1, -2, -6, -7, 7, 8, 16, 32, 63, 64, 65, 70, 127, 128, 129, 256, 257, 259, 65537, -65535, -253,
		1 << 32, 1<<32 + 3, -1 << 32, -1<<32 + 3, math.MaxInt, math.MaxInt - 1, math.MinInt, math.MinInt + 3,
	}
}

func greatKeys() []uint64 {
	return []uint64{
		0, 1, 2, 3, 255, 256, math.MaxUint32, 1 << 32, math.MaxInt64, 1 << 63, 1<<63 + 1,
		math.MaxUint64 - 1, math.MaxUint64, 0x0123456789abcdef, 11400714819323198485, 0xf1de83e19937733d,
	}
}

// homeOf is a home by the words of P10.1.
func homeOf(bits int, key uint64) int {
	factor, _ := new(big.Int).SetString("11400714819323198485", 10)
	n := new(big.Int).Mul(new(big.Int).SetUint64(key), factor)
	n.Mod(n, new(big.Int).Lsh(big.NewInt(1), 64))
	return int(n.Rsh(n, uint(64-bits)).Int64())
}

func homeIn(t api.Table, key uint64) int {
	return homeOf(slices.Index(sizes(), len(t.Slots))+1, key)
}

// checkOf is Check by the words of P10.2.
func checkOf(t api.Table) api.Errno {
	if !slices.Contains(sizes(), len(t.Slots)) {
		return api.ErrArg
	}
	has, free := map[uint64]int{}, 0
	for _, s := range t.Slots {
		if s.Used {
			has[s.Key]++
		} else {
			free++
		}
		if s.Used && has[s.Key] == 2 || !s.Used && (s.Key != 0 || s.Value != 0) {
			return api.ErrForm
		}
	}
	if free == 0 {
		return api.ErrForm
	}
	for i, s := range t.Slots {
		if !s.Used {
			continue
		}
		for at := homeIn(t, s.Key); at != i; at = (at + 1) % len(t.Slots) {
			if !t.Slots[at].Used {
				return api.ErrForm
			}
		}
	}
	return api.OK
}

func placeOf(t api.Table, key uint64) int {
	return slices.IndexFunc(t.Slots, func(s api.Slot) bool { return s.Used && s.Key == key })
}

func usedOf(t api.Table) int {
	used := 0
	for _, s := range t.Slots {
		if s.Used {
			used++
		}
	}
	return used
}

// getOf is Get by the words of P10.3.
func getOf(t api.Table, key uint64) (int, api.Errno) {
	if e := checkOf(t); e != api.OK {
		return 0, e
	}
	if at := placeOf(t, key); at >= 0 {
		return t.Slots[at].Value, api.OK
	}
	return 0, api.ErrNone
}

// putOf is Put by the words of P10.3.
func putOf(t api.Table, key uint64, value int) (api.Table, api.Errno) {
	if e := checkOf(t); e != api.OK {
		return api.Table{}, e
	}
	out := copyOf(t)
	if at := placeOf(t, key); at >= 0 {
		out.Slots[at].Value = value
		return out, api.OK
	}
	if usedOf(t) == len(t.Slots)-1 {
		return api.Table{}, api.ErrFull
	}
	at := homeIn(t, key)
	for out.Slots[at].Used {
		at = (at + 1) % len(t.Slots)
	}
	out.Slots[at] = u(key, value)
	return out, api.OK
}

// removeOf is Remove by the words of P10.4.
func removeOf(t api.Table, key uint64) (api.Table, api.Errno) {
	if e := checkOf(t); e != api.OK {
		return api.Table{}, e
	}
	hole := placeOf(t, key)
	if hole < 0 {
		return api.Table{}, api.ErrNone
	}
	out, many := copyOf(t), len(t.Slots)
	for at := (hole + 1) % many; t.Slots[at].Used; at = (at + 1) % many {
		var between []int
		for i := hole; i != at; {
			i = (i + 1) % many
			between = append(between, i)
		}
		if !slices.Contains(between, homeIn(t, t.Slots[at].Key)) {
			out.Slots[hole] = t.Slots[at]
			hole = at
		}
	}
	out.Slots[hole] = none()
	return out, api.OK
}

// asks holds all that a table answers against the words of the chapter.
func asks(t *testing.T, x api.Table, keys ...uint64) {
	t.Helper()
	if got, want := table.Check(x), checkOf(x); got != want {
		t.Fatalf("Check(%+v) = %d, want %d", x, got, want)
	}
	for _, key := range keys {
		v, e := table.Get(x, key)
		if want, wrong := getOf(x, key); v != want || e != wrong {
			t.Fatalf("Get(%+v, %d) = %d, error %d; want %d, error %d", x, key, v, e, want, wrong)
		}
		y, e := table.Put(x, key, -7)
		if want, wrong := putOf(x, key, -7); !same(y, want) || e != wrong {
			t.Fatalf("Put(%+v, %d, -7) = %+v, error %d; want %+v, error %d", x, key, y, e, want, wrong)
		}
		y, e = table.Remove(x, key)
		if want, wrong := removeOf(x, key); !same(y, want) || e != wrong {
			t.Fatalf("Remove(%+v, %d) = %+v, error %d; want %+v, error %d", x, key, y, e, want, wrong)
		}
	}
}

func puts(t *testing.T, x api.Table, key uint64, value int, want api.Table) api.Table {
	t.Helper()
	y, e := table.Put(x, key, value)
	if !same(y, want) || e != api.OK {
		t.Errorf("Put(%+v, %d, %d) = %+v, error %d; want %+v", x, key, value, y, e, want)
	}
	return y
}

func removes(t *testing.T, x api.Table, key uint64, want api.Table) {
	t.Helper()
	if y, e := table.Remove(x, key); !same(y, want) || e != api.OK {
		t.Errorf("Remove(%+v, %d) = %+v, error %d; want %+v", x, key, y, e, want)
	}
}

// refuses says that all calls on a table tell this error and nothing beside it.
func refuses(t *testing.T, x api.Table, want api.Errno, keys ...uint64) {
	t.Helper()
	if e := table.Check(x); e != want {
		t.Errorf("Check(%+v) = %d, want %d", x, e, want)
	}
	for _, key := range keys {
		if v, e := table.Get(x, key); v != 0 || e != want {
			t.Errorf("Get(%+v, %d) = %d, error %d; want error %d", x, key, v, e, want)
		}
		if y, e := table.Put(x, key, 5); len(y.Slots) != 0 || e != want {
			t.Errorf("Put(%+v, %d) = %+v, error %d; want error %d", x, key, y, e, want)
		}
		if y, e := table.Remove(x, key); len(y.Slots) != 0 || e != want {
			t.Errorf("Remove(%+v, %d) = %+v, error %d; want error %d", x, key, y, e, want)
		}
	}
}

// filled has these keys, put one by one; the first one's Value is 0.
func filled(t *testing.T, bits int, keys ...uint64) api.Table {
	t.Helper()
	x, e := table.New(bits)
	for i, key := range keys {
		if e == api.OK {
			x, e = table.Put(x, key, 10*i)
		}
	}
	if e != api.OK {
		t.Fatalf("%d bits and the keys %v: error %d", bits, keys, e)
	}
	return x
}

// firstKeys are the numbers from 0 on.
func firstKeys(many int) []uint64 {
	list := make([]uint64, many)
	for i := range list {
		list[i] = uint64(i)
	}
	return list
}

// P10.1.
func TestHome(t *testing.T) {
	for _, c := range []struct {
		key  uint64
		want [6]int
	}{
		{0, [6]int{0, 0, 0, 0, 0, 0}},
		{1, [6]int{1, 2, 4, 9, 19, 39}},
		{2, [6]int{0, 0, 1, 3, 7, 15}},
		{3, [6]int{1, 3, 6, 13, 27, 54}},
		{4, [6]int{0, 1, 3, 7, 15, 30}},
		{5, [6]int{0, 0, 0, 1, 2, 5}},
		{255, [6]int{1, 2, 4, 9, 19, 38}},
		{256, [6]int{0, 0, 1, 3, 6, 13}},
		{math.MaxUint32, [6]int{1, 3, 7, 14, 28, 56}},
		{1 << 32, [6]int{0, 1, 3, 7, 15, 31}},
		{math.MaxInt64, [6]int{1, 3, 7, 14, 28, 56}},
		{1 << 63, [6]int{1, 2, 4, 8, 16, 32}},
		{1<<63 + 1, [6]int{0, 0, 0, 1, 3, 7}},
		{math.MaxUint64 - 1, [6]int{1, 3, 6, 12, 24, 48}},
		{math.MaxUint64, [6]int{0, 1, 3, 6, 12, 24}},
		{0x0123456789abcdef, [6]int{0, 0, 0, 0, 1, 3}},
	} {
		for i, want := range c.want {
			if got, e := table.Home(i+1, c.key); got != want || e != api.OK {
				t.Errorf("Home(%d, %d) = %d, error %d; want %d", i+1, c.key, got, e, want)
			}
		}
	}
}

// P10.1: keys all over, and each bit of them.
func TestHomeOfManyKeys(t *testing.T) {
	list := greatKeys()
	for i := range uint64(64) {
		list = append(list, 1<<i, 1<<i-1, ^uint64(1<<i), i, -i)
	}
	for i := range uint64(2000) {
		list = append(list, i*i*i*0x0123456789abcdef)
	}
	for _, key := range list {
		for bits := 1; bits <= 6; bits++ {
			if got, e := table.Home(bits, key); got != homeOf(bits, key) || e != api.OK {
				t.Errorf("Home(%d, %d) = %d, error %d; want %d", bits, key, got, e, homeOf(bits, key))
			}
		}
	}
}

// P10.1, P10.2.
func TestBitsOutOfBounds(t *testing.T) {
	for _, bits := range beyond() {
		for _, key := range greatKeys() {
			if got, e := table.Home(bits, key); got != 0 || e != api.ErrArg {
				t.Errorf("Home(%d, %d) = %d, error %d", bits, key, got, e)
			}
		}
		if x, e := table.New(bits); len(x.Slots) != 0 || e != api.ErrArg {
			t.Errorf("New(%d) has %d slots, error %d", bits, len(x.Slots), e)
		}
	}
}

// P10.2.
func TestNew(t *testing.T) {
	for i, size := range sizes() {
		x, e := table.New(i + 1)
		if e != api.OK || !same(x, of(make([]api.Slot, size)...)) {
			t.Errorf("New(%d) = %+v, error %d", i+1, x, e)
		}
		if e := table.Check(x); e != api.OK {
			t.Errorf("New(%d): Check tells %d", i+1, e)
		}
	}
}

// P10.2: ErrArg is told ahead of ErrForm.
func TestCheckOfWrongSizes(t *testing.T) {
	refuses(t, api.Table{}, api.ErrArg, 0, 1)
	refuses(t, of(), api.ErrArg, 0, 1)
	for size := range 300 {
		if slices.Contains(sizes(), size) {
			continue
		}
		x := of(make([]api.Slot, size)...)
		refuses(t, x, api.ErrArg, 0, 1)
		for i := range x.Slots {
			x.Slots[i].Value = 1
		}
		refuses(t, x, api.ErrArg, 0, 1)
		for i := range x.Slots {
			x.Slots[i] = u(uint64(i/2), i)
		}
		refuses(t, x, api.ErrArg, 0, 1)
	}
	for _, size := range []int{1 << 10, 1 << 16, 1<<16 + 2, 1<<16 + 64, 1 << 20} {
		if e := table.Check(of(make([]api.Slot, size)...)); e != api.ErrArg {
			t.Errorf("Check of %d slots = %d", size, e)
		}
	}
}

// P10.2. In four slots the homes of 0, 2, 5 and 10 are 0, of 4 and 7 1, of 1 and 6 2, of 3 and 8 3.
func TestCheckOfRightTables(t *testing.T) {
	for _, x := range []api.Table{
		of(none(), none()),
		of(u(0, 0), none()),
		of(u(0, math.MinInt), none()),
		of(none(), u(1, math.MaxInt)),
		of(none(), u(math.MaxUint32, -1)),
		of(u(2, 1), u(0, 1), u(10, 1), none()),
		of(u(0, 0), u(5, 0), u(2, 0), none()),
		of(u(0, 0), u(4, 0), u(2, 0), none()),
		of(u(3, 0), none(), none(), u(8, 0)),
		of(u(8, 0), u(0, 0), none(), u(3, 0)),
		of(u(6, 0), none(), u(1, 0), u(3, 0)),
		of(u(0, 7), none(), u(1, 7), u(3, 7)),
		of(none(), u(4, 0), u(1, 0), u(3, 0)),
	} {
		if e := table.Check(x); e != api.OK {
			t.Errorf("Check(%+v) = %d", x, e)
		}
		asks(t, x, firstKeys(12)...)
	}
}

// P10.2: each thing that makes a table wrong, alone. The homes are those of the test above.
func TestCheckOfWrongTables(t *testing.T) {
	for _, x := range []api.Table{
		of(u(0, 0), u(1, 0)),
		of(u(1, 0), u(3, 0)),
		of(u(0, 0), u(4, 0), u(1, 0), u(3, 0)),
		of(u(0, 0), u(2, 0), u(5, 0), u(10, 0)),

		of(api.Slot{Key: 1}, none()),
		of(none(), api.Slot{Key: 1}),
		of(none(), api.Slot{Key: math.MaxUint64}),
		of(api.Slot{Value: 1}, none()),
		of(none(), api.Slot{Value: 1}),
		of(none(), api.Slot{Value: -1}),
		of(none(), api.Slot{Value: math.MinInt}),
		of(u(0, 0), api.Slot{Key: 1 << 63}),
		of(u(0, 0), api.Slot{Value: 1 << 32}),
		of(u(0, 0), none(), none(), api.Slot{Key: 3, Value: 4}),

		of(u(0, 0), u(0, 0), none(), none()),
		of(u(0, 1), u(0, 2), none(), none()),
		of(u(0, 0), u(5, 0), u(0, 0), none()),
		of(u(3, 0), none(), none(), u(3, 0)),
		of(u(8, 0), u(3, 0), none(), u(3, 1)),
		of(u(0, 0), none(), none(), u(0, 0)),

		of(none(), u(0, 0)),
		of(u(1, 0), none()),
		of(none(), u(0, 0), none(), none()),
		of(none(), none(), none(), u(0, 0)),
		of(none(), u(0, 0), u(1, 0), u(3, 0)),
		of(u(3, 0), none(), none(), none()),
		of(u(1, 0), none(), none(), u(3, 0)),
		of(u(0, 0), none(), u(2, 0), none()),
		of(u(3, 0), u(8, 0), none(), none()),
		of(u(0, 0), u(6, 0), none(), u(3, 0)),
		of(u(3, 0), u(6, 0), none(), u(8, 0)),
		of(u(4, 0), none(), u(1, 0), u(3, 0)),
	} {
		if e := table.Check(x); e != api.ErrForm || checkOf(x) != e {
			t.Errorf("Check(%+v) = %d", x, e)
		}
		refuses(t, x, api.ErrForm, 0, 1, 3, 9)
	}
}

// P10.2: a table that is right but for this, at each size and each slot.
func TestCheckOfEachSlot(t *testing.T) {
	for i, size := range sizes() {
		right := filled(t, i+1, firstKeys(size-1)...)
		if e := table.Check(right); e != api.OK {
			t.Fatalf("Check(%+v) = %d", right, e)
		}
		free := slices.Index(right.Slots, none())
		full := copyOf(right)
		full.Slots[free] = u(uint64(size-1), 0)
		refuses(t, full, api.ErrForm, 0, 1000)
		for _, s := range []api.Slot{{Key: 1}, {Value: 1}, {Value: -1}, {Key: 1 << 63}, {Value: math.MinInt}} {
			wrong := copyOf(right)
			wrong.Slots[free] = s
			refuses(t, wrong, api.ErrForm, 0, 1000)
		}
		for j := range right.Slots {
			open := copyOf(right)
			open.Slots[j] = none()
			asks(t, open, 0, 1, uint64(size), 1000)
			for k := range right.Slots {
				twice := copyOf(right)
				if twice.Slots[j] = twice.Slots[k]; j != k && twice.Slots[j].Used {
					refuses(t, twice, api.ErrForm, 0)
				}
			}
		}
	}
}

// P10.2 to P10.4: all tables of two and of four slots that can be laid of some slots, right and wrong ones.
func TestAllSmallTables(t *testing.T) {
	kinds := []api.Slot{none(), u(0, 1), u(2, 2), u(4, 3), u(1, 4), u(6, 0), u(3, 5), u(8, 6), {Key: 1}, {Value: 1}}
	for _, size := range []int{2, 4} {
		all := 1
		for range size {
			all *= len(kinds)
		}
		for n := range all {
			var x api.Table
			for range size {
				x.Slots = append(x.Slots, kinds[n%len(kinds)])
				n /= len(kinds)
			}
			asks(t, x, 0, 2, 6, 3, 5)
		}
	}
}

// P10.3.
func TestGet(t *testing.T) {
	x := of(u(8, math.MinInt), u(0, 0), none(), u(3, math.MaxInt))
	for _, c := range []struct {
		key  uint64
		want int
		e    api.Errno
	}{
		{8, math.MinInt, api.OK},
		{0, 0, api.OK},
		{3, math.MaxInt, api.OK},
		{1, 0, api.ErrNone},
		{2, 0, api.ErrNone},
		{11, 0, api.ErrNone},
		{1<<32 + 3, 0, api.ErrNone},
		{1 << 63, 0, api.ErrNone},
		{math.MaxUint64, 0, api.ErrNone},
	} {
		if got, e := table.Get(x, c.key); got != c.want || e != c.e {
			t.Errorf("Get(%+v, %d) = %d, error %d; want %d, error %d", x, c.key, got, e, c.want, c.e)
		}
	}
}

// P10.3, P10.4: each bit of a key counts. With two slots about half of these have the home of the key that is there.
func TestKeysThatAreNearlyTheSame(t *testing.T) {
	for _, key := range greatKeys() {
		x := filled(t, 1, key)
		for bit := range 64 {
			other := key ^ 1<<bit
			if got, e := table.Get(x, other); got != 0 || e != api.ErrNone {
				t.Errorf("Get(%+v, %d) = %d, error %d", x, other, got, e)
			}
			if y, e := table.Put(x, other, 1); len(y.Slots) != 0 || e != api.ErrFull {
				t.Errorf("Put(%+v, %d, 1) = %+v, error %d", x, other, y, e)
			}
			if y, e := table.Remove(x, other); len(y.Slots) != 0 || e != api.ErrNone {
				t.Errorf("Remove(%+v, %d) = %+v, error %d", x, other, y, e)
			}
		}
	}
}

// P10.3: a slot that isn't used has no key, not even 0.
func TestGetOfKey0(t *testing.T) {
	for i := range sizes() {
		x := filled(t, i+1)
		if got, e := table.Get(x, 0); got != 0 || e != api.ErrNone {
			t.Errorf("Get(%+v, 0) = %d, error %d", x, got, e)
		}
		if y, e := table.Remove(x, 0); len(y.Slots) != 0 || e != api.ErrNone {
			t.Errorf("Remove(%+v, 0) = %+v, error %d", x, y, e)
		}
		x = filled(t, i+1, 0)
		if got, e := table.Get(x, 0); got != 0 || e != api.OK || x.Slots[0] != u(0, 0) {
			t.Errorf("Get(%+v, 0) = %d, error %d", x, got, e)
		}
	}
}

// P10.3. In eight slots the homes of 0, 5, 13 and 18 are 0, of 2 and 10 1, of 7 2, of 4 3, of 1 4, of 3 and 11 6, of 8 and 16 7.
func TestPut(t *testing.T) {
	o := none()
	x := of(o, o, o, o, o, o, o, o)
	x = puts(t, x, 0, 5, of(u(0, 5), o, o, o, o, o, o, o))
	x = puts(t, x, 8, -1, of(u(0, 5), o, o, o, o, o, o, u(8, -1)))
	x = puts(t, x, 2, 0, of(u(0, 5), u(2, 0), o, o, o, o, o, u(8, -1)))
	x = puts(t, x, 16, 9, of(u(0, 5), u(2, 0), u(16, 9), o, o, o, o, u(8, -1)))
	x = puts(t, x, 5, 1, of(u(0, 5), u(2, 0), u(16, 9), u(5, 1), o, o, o, u(8, -1)))
	x = puts(t, x, 3, 7, of(u(0, 5), u(2, 0), u(16, 9), u(5, 1), o, o, u(3, 7), u(8, -1)))
	x = puts(t, x, 16, -9, of(u(0, 5), u(2, 0), u(16, -9), u(5, 1), o, o, u(3, 7), u(8, -1)))
	x = puts(t, x, 0, 0, of(u(0, 0), u(2, 0), u(16, -9), u(5, 1), o, o, u(3, 7), u(8, -1)))
	full := puts(t, x, 11, 2, of(u(0, 0), u(2, 0), u(16, -9), u(5, 1), u(11, 2), o, u(3, 7), u(8, -1)))
	for _, key := range []uint64{1, 4, 7, 10, 13, 18, math.MaxUint64} {
		if y, e := table.Put(full, key, 1); len(y.Slots) != 0 || e != api.ErrFull {
			t.Errorf("Put(%+v, %d, 1) = %+v, error %d", full, key, y, e)
		}
	}
	puts(t, full, 11, 3, of(u(0, 0), u(2, 0), u(16, -9), u(5, 1), u(11, 3), o, u(3, 7), u(8, -1)))
	puts(t, full, 0, 0, full)
}

// P10.3: as many keys as there are slots but one, at each size.
func TestPutUntilFull(t *testing.T) {
	for i, size := range sizes() {
		for _, step := range []uint64{1, 3, 1 << 32, 0x0123456789abcdef, math.MaxUint64} {
			x := filled(t, i+1)
			for j := range uint64(size - 1) {
				want, _ := putOf(x, j*step, int(j))
				x = puts(t, x, j*step, int(j), want)
			}
			if y, e := table.Put(x, uint64(size)*step, 1); len(y.Slots) != 0 || e != api.ErrFull {
				t.Errorf("Put of one more into %+v = %+v, error %d", x, y, e)
			}
			for j := range uint64(size - 1) {
				if v, e := table.Get(x, j*step); v != int(j) || e != api.OK {
					t.Errorf("Get(%+v, %d) = %d, error %d", x, j*step, v, e)
				}
				want, _ := putOf(x, j*step, -5)
				puts(t, x, j*step, -5, want)
			}
		}
	}
}

// P10.4. The homes are those of TestPut.
func TestRemove(t *testing.T) {
	o := none()
	for _, c := range []struct {
		have api.Table
		key  uint64
		want api.Table
	}{
		{of(u(0, 5), o, o, o, o, o, o, o), 0, of(o, o, o, o, o, o, o, o)},
		// One at home stays, though a hole is ahead of it.
		{of(u(0, 5), u(2, 6), o, o, o, o, o, o), 0, of(o, u(2, 6), o, o, o, o, o, o)},
		{of(o, u(2, 6), u(7, 8), o, o, o, o, o), 2, of(o, o, u(7, 8), o, o, o, o, o)},
		// One that had no room at home goes into the hole, and what is behind it into its own slot.
		{of(u(0, 5), u(5, 6), o, o, o, o, o, o), 0, of(u(5, 6), o, o, o, o, o, o, o)},
		{of(u(0, 1), u(5, 2), u(13, 3), o, o, o, o, o), 0, of(u(5, 2), u(13, 3), o, o, o, o, o, o)},
		{of(u(0, 1), u(5, 2), u(13, 3), o, o, o, o, o), 5, of(u(0, 1), u(13, 3), o, o, o, o, o, o)},
		{of(u(0, 1), u(5, 2), u(13, 3), o, o, o, o, o), 13, of(u(0, 1), u(5, 2), o, o, o, o, o, o)},
		{of(u(0, 1), u(5, 2), u(2, 3), u(7, 4), o, o, o, o), 0, of(u(5, 2), u(2, 3), u(7, 4), o, o, o, o, o)},
		// One that stays is passed, and one behind it goes into the hole.
		{of(u(0, 1), u(2, 2), u(7, 3), u(5, 4), o, o, o, o), 0, of(u(5, 4), u(2, 2), u(7, 3), o, o, o, o, o)},
		{of(u(0, 1), u(2, 2), u(5, 3), u(10, 4), u(1, 5), o, o, o), 0, of(u(5, 3), u(2, 2), u(10, 4), o, u(1, 5), o, o, o)},
		{of(u(0, 1), u(2, 2), u(5, 3), u(10, 4), u(1, 5), o, o, o), 2, of(u(0, 1), u(5, 3), u(10, 4), o, u(1, 5), o, o, o)},
		// The way goes from the last slot to the first one.
		{of(u(16, 2), o, o, o, o, o, o, u(8, 1)), 8, of(o, o, o, o, o, o, o, u(16, 2))},
		{of(u(16, 2), o, o, o, o, o, o, u(8, 1)), 16, of(o, o, o, o, o, o, o, u(8, 1))},
		{of(u(0, 2), u(16, 3), o, o, o, o, o, u(8, 1)), 8, of(u(0, 2), o, o, o, o, o, o, u(16, 3))},
		{of(u(16, 2), u(0, 3), u(5, 4), o, o, o, o, u(8, 1)), 8, of(u(0, 3), u(5, 4), o, o, o, o, o, u(16, 2))},
		{of(u(8, 1), u(0, 2), u(11, 3), o, o, o, u(3, 4), u(16, 5)), 3, of(u(8, 1), u(0, 2), o, o, o, o, u(11, 3), u(16, 5))},
		{of(u(8, 1), u(0, 2), u(11, 3), o, o, o, u(3, 4), u(16, 5)), 16, of(u(0, 2), u(11, 3), o, o, o, o, u(3, 4), u(8, 1))},
		// What is behind one that isn't used is as it was.
		{of(u(0, 1), u(5, 2), o, u(4, 3), u(1, 4), o, o, u(8, 5)), 0, of(u(5, 2), o, o, u(4, 3), u(1, 4), o, o, u(8, 5))},
		// All slots but one are used.
		{
			of(u(16, 1), u(0, 2), u(5, 3), u(4, 4), u(1, 5), o, u(3, 6), u(8, 7)), 3,
			of(u(16, 1), u(0, 2), u(5, 3), u(4, 4), u(1, 5), o, o, u(8, 7)),
		},
		{
			of(u(16, 1), u(0, 2), u(5, 3), u(2, 4), u(1, 5), o, u(3, 6), u(8, 7)), 8,
			of(u(0, 2), u(5, 3), u(2, 4), o, u(1, 5), o, u(3, 6), u(16, 1)),
		},
	} {
		removes(t, c.have, c.key, c.want)
	}
}

// P10.4: who isn't there, also where another of the same home is.
func TestRemoveOfNone(t *testing.T) {
	x := of(u(16, 2), none(), none(), none(), none(), none(), none(), u(8, 1))
	for _, key := range []uint64{0, 1, 5, 24, 1<<32 + 8, 1<<63 + 8, math.MaxUint64} {
		if y, e := table.Remove(x, key); len(y.Slots) != 0 || e != api.ErrNone {
			t.Errorf("Remove(%+v, %d) = %+v, error %d", x, key, y, e)
		}
	}
}

// Example 10 of the document: a key that is removed again leaves all slots as they were.
func TestRemoveAgain(t *testing.T) {
	n := uint64(1)
	for i, size := range sizes() {
		for range 200 {
			x := filled(t, i+1)
			for range random(&n, size-1) {
				x, _ = table.Put(x, uint64(random(&n, 3*size)), 1)
			}
			for key := range uint64(3 * size) {
				if placeOf(x, key) >= 0 {
					continue
				}
				y, e := table.Put(x, key, 8)
				if e != api.OK {
					t.Fatalf("Put(%+v, %d, 8): error %d", x, key, e)
				}
				removes(t, y, key, x)
			}
		}
	}
}

// P10.3, P10.4: any steps; each table is right, and has just the keys that were put and not removed.
func TestAnySteps(t *testing.T) {
	n := uint64(2)
	for i, size := range sizes() {
		x, has := filled(t, i+1), map[uint64]int{}
		for range 3000 {
			key, value := uint64(random(&n, 2*size)), random(&n, 100)-50
			if random(&n, 8) == 0 {
				key *= 0x0123456789abcdef
			}
			var y, want api.Table
			var e, wrong api.Errno
			if random(&n, 5) < 2 {
				y, e = table.Remove(x, key)
				want, wrong = removeOf(x, key)
				delete(has, key)
			} else {
				y, e = table.Put(x, key, value)
				if want, wrong = putOf(x, key, value); e == api.OK {
					has[key] = value
				}
			}
			if !same(y, want) || e != wrong {
				t.Fatalf("with %+v and %d: %+v, error %d; want %+v, error %d", x, key, y, e, want, wrong)
			}
			if e == api.OK {
				x = y
			}
			if e := table.Check(x); e != api.OK || usedOf(x) != len(has) {
				t.Fatalf("Check(%+v) = %d, and there are %d keys", x, e, len(has))
			}
			for key := range uint64(2 * size) {
				value, there := has[key]
				if got, e := table.Get(x, key); got != value || (e == api.OK) != there || !there && e != api.ErrNone {
					t.Fatalf("Get(%+v, %d) = %d, error %d; want %d, %t", x, key, got, e, value, there)
				}
			}
		}
	}
}

// P1, P10.2 to P10.4: any slots, most tables of them wrong.
func TestAnyTables(t *testing.T) {
	n := uint64(3)
	for range 20000 {
		size := []int{0, 1, 2, 3, 4, 4, 8, 8, 8, 16, 32, 63, 64, 65}[random(&n, 14)]
		x := of(make([]api.Slot, size)...)
		for i := range x.Slots {
			switch random(&n, 3) {
			case 0:
				x.Slots[i] = u(uint64(random(&n, 4*size)), random(&n, 3))
			case 1:
				key := uint64(random(&n, 40))
				for k := key; k < key+200; k++ {
					if slices.Contains(sizes(), size) && homeIn(x, k) == i && placeOf(x, k) < 0 {
						x.Slots[i] = u(k, random(&n, 3))
						break
					}
				}
			}
		}
		if size > 0 && random(&n, 20) == 0 {
			x.Slots[random(&n, size)] = api.Slot{Key: uint64(random(&n, 2)), Value: random(&n, 2)}
		}
		asks(t, x, 0, uint64(random(&n, 4*size+1)), uint64(random(&n, 4*size+1)))
	}
}

// P2: neither the slots that are handed in nor the room behind them are changed.
func TestNothingIsChanged(t *testing.T) {
	n := uint64(4)
	for i, size := range sizes() {
		x := filled(t, i+1, firstKeys(max(1, size/2))...)
		room := append(make([]api.Slot, 0, 3*size), x.Slots...)
		behind := room[size : 3*size]
		for j := range behind {
			behind[j] = u(uint64(j), j)
		}
		before := slices.Clone(room[:3*size])
		for range 200 {
			key := uint64(random(&n, size))
			mine := api.Table{Slots: room}
			table.Check(mine)
			table.Get(mine, key)
			table.Put(mine, key, 5)
			table.Remove(mine, key)
			if !slices.Equal(room[:3*size], before) {
				t.Fatalf("with %d and %d slots all is %+v, and was %+v", key, size, room[:3*size], before)
			}
		}
	}
}

// scribble writes over all slots and the spare room behind them.
func scribble(x api.Table) {
	all := x.Slots[:cap(x.Slots)]
	for i := range all {
		all[i] = u(math.MaxUint64, -1)
	}
}

// P2: what is answered shares nothing with what was handed in, or with another answer.
func TestAnswersAreNew(t *testing.T) {
	for i, size := range sizes() {
		a, _ := table.New(i + 1)
		b, _ := table.New(i + 1)
		scribble(a)
		if !same(b, of(make([]api.Slot, size)...)) {
			t.Errorf("New(%d) is %+v, when another one was written over", i+1, b)
		}
		x := filled(t, i+1, firstKeys(size-1)...)
		was := copyOf(x)
		answers := map[string]func() (api.Table, api.Errno){
			"Put of another Value": func() (api.Table, api.Errno) { return table.Put(x, 0, 99) },
			"Put of the same":      func() (api.Table, api.Errno) { return table.Put(x, 0, 0) },
			"Remove":               func() (api.Table, api.Errno) { return table.Remove(x, 0) },
		}
		for name, ask := range answers {
			first, e := ask()
			want := copyOf(first)
			again, f := ask()
			scribble(first)
			if e != api.OK || f != api.OK || !same(x, was) || !same(again, want) {
				t.Errorf("%s with %d slots: an answer that was written over changes another table", name, size)
			}
		}
	}
}

// P2: what is answered hangs on what was handed in, not on what was asked ahead of it, and not on what comes of it later.
func TestEveryCallAnswersTheSameAgain(t *testing.T) {
	type answer struct {
		value      int
		e, f, g, h api.Errno
		put, left  api.Table
	}
	tables := []api.Table{
		filled(t, 3, firstKeys(5)...), filled(t, 2), filled(t, 1, 3), of(none()), of(u(1, 0), none()), filled(t, 4, 2, 10, 18),
	}
	ask := func(i int) (a answer) {
		x := copyOf(tables[i%len(tables)])
		key := uint64(i % 19)
		a.e = table.Check(x)
		a.value, a.f = table.Get(x, key)
		a.put, a.g = table.Put(x, key, i)
		a.left, a.h = table.Remove(x, key)
		scribble(x)
		return a
	}
	first := make([]answer, 600)
	for i := range first {
		first[i] = ask(i)
	}
	for i := len(first) - 1; i >= 0; i-- {
		a, b := first[i], ask(i)
		numbers := a.value == b.value && a.e == b.e && a.f == b.f && a.g == b.g && a.h == b.h
		if !numbers || !same(a.put, b.put) || !same(a.left, b.left) {
			t.Errorf("call %d is answered otherwise when it is asked again", i)
		}
	}
}
