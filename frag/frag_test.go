package frag_test

import (
	"fmt"
	"math"
	"reflect"
	"slices"
	"strings"
	"testing"

	"customshouse/api"
	"customshouse/frag"
	"customshouse/ip"
)

// random gives numbers that are the same in each run.
func random(n *uint32, below int) int {
	*n = *n*1664525 + 1013904223
	return int(*n>>8) % below
}

func text(size int) string {
	b := make([]byte, size)
	for i := range b {
		b[i] = byte('a' + i%23)
	}
	return string(b)
}

func short(v any) string { return fmt.Sprintf("%.300s", fmt.Sprint(v)) }

func packet(change func(p *api.Packet)) api.Packet {
	p := api.Packet{Tos: 3, Id: 7, Life: 64, Proto: 17, From: 1, To: 2, Options: "opts", Data: text(99)}
	change(&p)
	return p
}

// piece of the packet of the four 1, 2, 17, id.
func piece(id, start int, data string, more bool) api.Packet {
	return packet(func(p *api.Packet) { p.Id, p.Start, p.Data, p.More = id, start, data, more })
}

func heap(id int, parts ...api.Part) api.Heap {
	h := api.Heap{From: 1, To: 2, Proto: 17, Id: id, Parts: parts}
	if len(parts) > 0 && parts[0].At == 0 {
		h.Tos, h.Life, h.Options = 3, 64, "opts"
	}
	return h
}

func part(at, size int, last bool) api.Part {
	return api.Part{At: at, Data: text(size), Last: last}
}

// apart gives parts of eight bytes each, with gaps between them.
func apart(from, count int) []api.Part {
	var out []api.Part
	for i := range count {
		out = append(out, part(from+16*i, 8, false))
	}
	return out
}

func pool(count int) []api.Heap {
	var out []api.Heap
	for i := range count {
		out = append(out, heap(100+i, part(8*i, 8, false), part(8*i+16, 5, true)))
	}
	return out
}

func copied(pool []api.Heap) []api.Heap {
	out := slices.Clone(pool)
	for i := range out {
		out[i].Parts = slices.Clone(out[i].Parts)
	}
	return out
}

// same holds pools against each other, of which empty lists may be nil.
func same(a, b []api.Heap) bool {
	return slices.EqualFunc(a, b, func(x, y api.Heap) bool {
		parts := slices.Equal(x.Parts, y.Parts)
		x.Parts, y.Parts = nil, nil
		return parts && reflect.DeepEqual(x, y)
	})
}

// fed says that Feed tells just this.
func fed(t *testing.T, name string, have []api.Heap, p api.Packet, want []api.Heap, whole api.Packet, done bool, wrong api.Errno) {
	t.Helper()
	before := copied(have)
	got, q, ok, e := frag.Feed(have, p)
	if !same(got, want) || q != whole || ok != done || e != wrong {
		t.Errorf("%s: Feed tells\n%s, %s, %v, %d, want\n%s, %s, %v, %d", name, short(got), short(q), ok, e, short(want), short(whole), done, wrong)
	}
	if !same(have, before) {
		t.Errorf("%s: the pool that was handed in is another", name)
	}
}

// P4.1, and example 4 of the document.
func TestSplitOfTheExample(t *testing.T) {
	p := packet(func(p *api.Packet) { p.Options, p.Start = "", 10 })
	l, e := frag.Split(p, 68)
	want := []api.Packet{p, p, p}
	want[0].Data, want[0].More = p.Data[:48], true
	want[1].Data, want[1].More, want[1].Start = p.Data[48:96], true, 16
	want[2].Data, want[2].Start = p.Data[96:], 22
	if !slices.Equal(l, want) || e != api.OK {
		t.Errorf("%v, %d, want %v", l, e, want)
	}
}

// P4.1: all sizes of Data and most around each other: pieces are as large as they may be, and tell all Data in order.
func TestSplitOfManySizes(t *testing.T) {
	for _, options := range []string{"", "abcd", text(40)} {
		head := 20 + len(options)
		for most := 68; most < 100; most++ {
			for size := range 250 {
				p := packet(func(p *api.Packet) {
					p.Options, p.Data, p.Start, p.More = options, text(size), size%3*100, size%2 == 1
				})
				l, e := frag.Split(p, most)
				if e != api.OK {
					t.Fatalf("Split(%v, %d) tells %d", p, most, e)
				}
				if head+size <= most {
					if !slices.Equal(l, []api.Packet{p}) {
						t.Fatalf("Split(%v, %d) = %v", p, most, l)
					}
					continue
				}
				checkPieces(t, p, most, l)
			}
		}
	}
}

func checkPieces(t *testing.T, p api.Packet, most int, l []api.Packet) {
	t.Helper()
	each := most - 20 - len(p.Options)
	for each%8 != 0 {
		each--
	}
	rest, start := p.Data, p.Start
	for i, got := range l {
		want := p
		want.Start, want.Data, want.More = start, rest[:min(each, len(rest))], true
		if i == len(l)-1 {
			want.Data, want.More = rest, p.More
		}
		if got != want {
			t.Fatalf("Split(%s, %d): piece %d is %s, want %s", short(p), most, i, short(got), short(want))
		}
		if s, e := ip.Write(got); e != api.OK || len(s) > most || got.Data == "" {
			t.Fatalf("Split(%s, %d): piece %d of %d bytes: %d", short(p), most, i, len(s), e)
		}
		rest, start = rest[len(want.Data):], start+len(want.Data)/8
	}
	if rest != "" {
		t.Fatalf("Split(%s, %d) leaves %d bytes out", short(p), most, len(rest))
	}
}

// P4.1: the last piece has what is left behind pieces that are all as large as they may be, so never more than they.
func TestSplitLeavesTheLastOneWhatIsLeft(t *testing.T) {
	p := packet(func(p *api.Packet) { p.Options = "" })
	for most := 68; most < 76; most++ {
		var sizes []int
		l, e := frag.Split(p, most)
		for _, q := range l {
			sizes = append(sizes, len(q.Data))
		}
		if !slices.Equal(sizes, []int{48, 48, 3}) || e != api.OK {
			t.Errorf("at most %d: pieces of %v, %d", most, sizes, e)
		}
	}
}

// P4.1: the greatest packets, the smallest pieces, and all there is between them.
func TestSplitOfGreatPackets(t *testing.T) {
	for _, p := range []api.Packet{
		packet(func(p *api.Packet) { p.Options, p.Data = "", text(65515) }),
		packet(func(p *api.Packet) { p.Options, p.Data = text(40), text(65475) }),
		packet(func(p *api.Packet) { p.Options, p.Data, p.Start, p.More = "", text(65515-8*4000), 4000, true }),
		packet(func(p *api.Packet) { p.Data, p.Start = text(51), 8183 }),
	} {
		for _, most := range []int{68, 69, 75, 76, 576, 1500, 33000, 65528, 65534} {
			l, e := frag.Split(p, most)
			if e != api.OK {
				t.Errorf("Split(%s, %d) tells %d", short(p), most, e)
			}
			if 20+len(p.Options)+len(p.Data) <= most {
				if !slices.Equal(l, []api.Packet{p}) {
					t.Errorf("Split(%s, %d) = %s", short(p), most, short(l))
				}
				continue
			}
			checkPieces(t, p, most, l)
		}
	}
}

// P4.1: what is not more than most is told as it is, whatever else would be wrong with its pieces.
func TestSplitOfWhatFits(t *testing.T) {
	for _, c := range []struct {
		most int
		set  func(p *api.Packet)
	}{
		{68, func(p *api.Packet) { p.Data = "" }},
		{68, func(p *api.Packet) { p.Data = text(44) }},
		{68, func(p *api.Packet) { p.Data, p.Options = text(8), text(40) }},
		{123, func(p *api.Packet) {}},
		{123, func(p *api.Packet) { p.Whole = true }},
		{123, func(p *api.Packet) { p.More = true }},
		{123, func(p *api.Packet) { p.Start = 8191 }},
		{65535, func(p *api.Packet) { p.Whole = true }},
		{65535, func(p *api.Packet) { p.Data, p.Start = text(65511), 8191 }},
	} {
		p := packet(c.set)
		if l, e := frag.Split(p, c.most); !slices.Equal(l, []api.Packet{p}) || e != api.OK {
			t.Errorf("Split(%s, %d) = %s, %d", short(p), c.most, short(l), e)
		}
	}
}

// P4.1: wrong packets, and of several errors the one that is told first.
func TestSplitOfWrongPackets(t *testing.T) {
	nothing := func(p *api.Packet) {}
	for _, c := range []struct {
		most int
		set  func(p *api.Packet)
		want api.Errno
	}{
		{67, nothing, api.ErrArg},
		{67, func(p *api.Packet) { p.Data = "" }, api.ErrArg},
		{65536, nothing, api.ErrArg},
		{65536, func(p *api.Packet) { p.Data = "" }, api.ErrArg},
		{0, nothing, api.ErrArg},
		{-1, nothing, api.ErrArg},
		{-1500, nothing, api.ErrArg},
		{1<<32 + 68, nothing, api.ErrArg},
		{math.MaxInt, nothing, api.ErrArg},
		{math.MinInt, nothing, api.ErrArg},
		{67, func(p *api.Packet) { p.Whole = true }, api.ErrArg},
		{67, func(p *api.Packet) { p.Start = 8191 }, api.ErrArg},
		{1500, func(p *api.Packet) { p.Tos = 256 }, api.ErrArg},
		{1500, func(p *api.Packet) { p.Life = -1 }, api.ErrArg},
		{1500, func(p *api.Packet) { p.Options = "x" }, api.ErrArg},
		{1500, func(p *api.Packet) { p.Start = 8192 }, api.ErrArg},
		{1500, func(p *api.Packet) { p.Start = math.MaxInt }, api.ErrArg},
		{1500, func(p *api.Packet) { p.Whole, p.More = true, true }, api.ErrForm},
		{67, func(p *api.Packet) { p.Whole, p.More = true, true }, api.ErrForm},
		{1500, func(p *api.Packet) { p.Whole, p.Start = true, 1 }, api.ErrForm},
		{1500, func(p *api.Packet) { p.Data = text(65512) }, api.ErrLarge},
		{67, func(p *api.Packet) { p.Data = text(65512) }, api.ErrLarge},
		{1500, func(p *api.Packet) { p.Data, p.Whole = text(65512), true }, api.ErrLarge},
		{122, func(p *api.Packet) { p.Whole = true }, api.ErrState},
		{68, func(p *api.Packet) { p.Data, p.Whole = text(65511), true }, api.ErrState},
		{122, func(p *api.Packet) { p.Start = 8178 }, api.ErrLarge},
		{122, func(p *api.Packet) { p.Start = 8191 }, api.ErrLarge},
		{68, func(p *api.Packet) { p.Data, p.Start = text(52), 8183 }, api.ErrLarge},
		{1500, func(p *api.Packet) { p.Data, p.Start, p.More = text(65511), 1, true }, api.ErrLarge},
	} {
		p := packet(c.set)
		if l, e := frag.Split(p, c.most); len(l) != 0 || e != c.want {
			t.Errorf("Split(%s, %d) = %s, %d, want %d", short(p), c.most, short(l), e, c.want)
		}
	}
	if l, e := frag.Split(packet(func(p *api.Packet) { p.Start = 8177 }), 122); len(l) != 2 || e != api.OK {
		t.Errorf("as far as there may be: %v, %d", l, e)
	}
}

// P4.2: pools that are right.
func TestCheckOfRightPools(t *testing.T) {
	odd := heap(1, part(0, 8, false))
	odd.Proto, odd.Id, odd.Tos, odd.Life, odd.Options = -1, math.MaxInt, 1000, -5, "xyz"
	full := pool(16)
	for i := range full {
		full[i] = heap(i, apart(8*i, 64)...)
	}
	others := []api.Heap{heap(7, part(0, 8, false)), heap(8, part(0, 8, false)), heap(7, part(0, 8, false)), heap(7, part(0, 8, false)), heap(7, part(0, 8, false))}
	others[2].From, others[3].To, others[4].Proto = 2, 1, 6
	for name, pool := range map[string][]api.Heap{
		"none":                          nil,
		"an empty list":                 {},
		"one":                           {heap(7, part(0, 8, false))},
		"not from 0 on":                 {heap(7, part(8, 8, false))},
		"all parts are there":           {heap(7, part(0, 8, false), part(8, 3, true))},
		"one part that is all":          {heap(7, part(0, 3, true))},
		"a last one of eight":           {heap(7, part(16, 8, true))},
		"as far as there may be":        {heap(7, part(65512, 3, true))},
		"as much as there may be":       {heap(7, part(0, 65515, true))},
		"as far, and not last":          {heap(7, part(65504, 8, false))},
		"16 heaps, 64 parts":            full,
		"16 heaps":                      pool(16),
		"three of the four are same":    others,
		"zero at 0":                     {{Parts: []api.Part{part(0, 8, false)}}},
		"numbers that nobody asks for":  {odd},
		"parts beside each other, gaps": {heap(7, part(8, 16, false), part(24, 8, false), part(800, 1, true))},
	} {
		if e := frag.Check(pool); e != api.OK {
			t.Errorf("%s: %d", name, e)
		}
	}
}

// P4.2: pools that are wrong, each in one thing.
func TestCheckOfWrongPools(t *testing.T) {
	good := part(0, 8, false)
	for name, parts := range map[string][]api.Part{
		"no part":                     nil,
		"no Data":                     {part(0, 0, false)},
		"no Data of the last":         {good, part(8, 0, true)},
		"no Data between":             {good, part(8, 0, false), part(16, 8, false)},
		"below 0":                     {part(-8, 8, false)},
		"far below 0":                 {part(math.MinInt, 8, false)},
		"At 1":                        {part(1, 8, false)},
		"At 12":                       {good, part(12, 8, true)},
		"ends behind":                 {part(65512, 4, true)},
		"ends behind, not last":       {part(65512, 8, false)},
		"begins behind":               {part(65520, 1, true)},
		"far behind":                  {part(math.MaxInt-7, 8, true)},
		"far behind, and goes round":  {good, part(math.MaxInt-7, 80, false)},
		"too much Data":               {part(0, 65516, true)},
		"far too much Data":           {part(0, 1<<20, false)},
		"not last, of 7":              {part(0, 7, false)},
		"not last, of 9":              {part(0, 9, false), part(16, 8, true)},
		"falling":                     {part(8, 8, false), good},
		"falling behind":              {good, part(24, 8, false), part(16, 8, false)},
		"twice":                       {good, good},
		"over another":                {part(0, 16, false), part(8, 8, false)},
		"over another's end":          {part(0, 16, false), part(8, 16, false)},
		"within another":              {part(0, 32, false), part(8, 8, true)},
		"last ahead":                  {part(0, 8, true), part(8, 8, false)},
		"last ahead of a last":        {part(0, 8, true), part(8, 8, true)},
		"last of 7 ahead":             {part(0, 7, true), part(8, 8, false)},
		"last between":                {good, part(8, 8, true), part(24, 8, false)},
		"one goes round onto another": {part(8, 8, false), part(math.MinInt, 8, false)},
	} {
		for _, pool := range [][]api.Heap{{heap(7, parts...)}, append(pool(15), heap(7, parts...)), append([]api.Heap{heap(7, parts...)}, pool(15)...)} {
			if e := frag.Check(pool); e != api.ErrForm {
				t.Errorf("%s, of %d heaps: %d", name, len(pool), e)
			}
		}
	}
}

// P4.2: Tos, Life and Options are those of the part at 0 alone.
func TestCheckOfWhatIsToldOfThePartAtZero(t *testing.T) {
	for name, set := range map[string]func(h *api.Heap){
		"Tos":       func(h *api.Heap) { h.Tos = 1 },
		"Tos -1":    func(h *api.Heap) { h.Tos = -1 },
		"Life":      func(h *api.Heap) { h.Life = 1 },
		"Options":   func(h *api.Heap) { h.Options = "abcd" },
		"Options 0": func(h *api.Heap) { h.Options = "\x00" },
	} {
		h := heap(7, part(8, 8, false), part(16, 3, true))
		set(&h)
		if e := frag.Check([]api.Heap{h}); e != api.ErrForm {
			t.Errorf("%s without a part at 0: %d", name, e)
		}
		h.Parts = append([]api.Part{part(0, 8, false)}, h.Parts...)
		if e := frag.Check([]api.Heap{h}); e != api.OK {
			t.Errorf("%s with a part at 0: %d", name, e)
		}
	}
}

// P4.2: heaps of the same four, wherever they stand, and how many there may be; ErrLarge is told first.
func TestCheckOfWholePools(t *testing.T) {
	for i := range 16 {
		for j := range i {
			l := pool(16)
			l[i].Id = l[j].Id
			if e := frag.Check(l); e != api.ErrForm {
				t.Errorf("%d and %d of the same four: %d", i, j, e)
			}
		}
	}
	wide := heap(7, apart(0, 65)...)
	for name, pool := range map[string][]api.Heap{
		"17 heaps":                        pool(17),
		"17 heaps of nothing":             make([]api.Heap, 17),
		"very many heaps":                 make([]api.Heap, 5000),
		"65 parts":                        {wide},
		"65 parts of nothing":             {{Parts: make([]api.Part, 65)}},
		"65 parts behind a wrong heap":    {{}, wide},
		"65 parts, of the same four":      {heap(7, part(0, 8, false)), wide},
		"65 parts at the end":             append(pool(15), wide),
		"65 parts, and one of them wrong": {heap(7, append([]api.Part{{}}, apart(0, 64)...)...)},
	} {
		if e := frag.Check(pool); e != api.ErrLarge {
			t.Errorf("%s: %d", name, e)
		}
	}
	if e := frag.Check([]api.Heap{{}}); e != api.ErrForm {
		t.Errorf("a heap of nothing: %d", e)
	}
}

// P4.3: the pieces of a packet in any order, each once or twice, are that packet again.
func TestFeedInAnyOrder(t *testing.T) {
	p := packet(func(p *api.Packet) { p.Data = text(8*6*3 + 5) })
	l, e := frag.Split(p, 72)
	if e != api.OK || len(l) != 4 {
		t.Fatal(l, e)
	}
	for i := range l {
		// Only the Tos, Life and Options of the piece at 0 count.
		if i > 0 {
			l[i].Tos, l[i].Life, l[i].Options = i, 10*i, ""
		}
	}
	for n := range 4 * 4 * 4 * 4 {
		order := []int{n % 4, n / 4 % 4, n / 16 % 4, n / 64}
		have := pool(3)
		seen := map[int]int{}
		for _, k := range order {
			seen[k]++
			got, q, ok, e := frag.Feed(have, l[k])
			if len(seen) == 4 {
				if !same(got, pool(3)) || q != p || !ok || e != api.OK {
					t.Fatalf("order %v: %s, %v, %v, %d", order, short(got), q, ok, e)
				}
				break
			}
			if len(got) != 4 || len(got[3].Parts) != len(seen) || q != (api.Packet{}) || ok || e != api.OK || frag.Check(got) != api.OK {
				t.Fatalf("order %v: %s, %v, %v, %d", order, short(got), q, ok, e)
			}
			have = got
		}
	}
}

// P4.3: where a part is put, and what is told of its heap.
func TestFeedPutsPartsIn(t *testing.T) {
	none := api.Packet{}
	fed(t, "the first", nil, piece(7, 2, text(8), true), []api.Heap{heap(7, part(16, 8, false))}, none, false, api.OK)
	fed(t, "the first, at 0", nil, piece(7, 0, text(8), true), []api.Heap{heap(7, part(0, 8, false))}, none, false, api.OK)
	fed(t, "the first, last", nil, piece(7, 2, text(3), false), []api.Heap{heap(7, part(16, 3, true))}, none, false, api.OK)
	fed(t, "as far as there may be", nil, piece(7, 8189, text(3), false), []api.Heap{heap(7, part(65512, 3, true))}, none, false, api.OK)
	fed(t, "behind others", pool(3), piece(7, 2, text(8), true), append(pool(3), heap(7, part(16, 8, false))), none, false, api.OK)
	have := []api.Heap{heap(6, part(0, 8, false)), heap(7, part(16, 8, false), part(40, 8, true)), heap(8, part(0, 8, false))}
	want := copied(have)
	want[1] = heap(7, part(0, 8, false), part(16, 8, false), part(40, 8, true))
	fed(t, "ahead of all", have, piece(7, 0, text(8), true), want, none, false, api.OK)
	want[1] = heap(7, part(8, 8, false), part(16, 8, false), part(40, 8, true))
	fed(t, "beside another", have, piece(7, 1, text(8), true), want, none, false, api.OK)
	want[1] = heap(7, part(16, 8, false), part(24, 16, false), part(40, 8, true))
	fed(t, "between", have, piece(7, 3, text(16), true), want, none, false, api.OK)
	have = have[:1]
	fed(t, "behind all, last", have, piece(6, 3, "x", false), []api.Heap{heap(6, part(0, 8, false), api.Part{At: 24, Data: "x", Last: true})}, none, false, api.OK)
}

// P4.3: each of the four makes another heap.
func TestFeedOfOtherPackets(t *testing.T) {
	for i, set := range []func(p *api.Packet){
		func(p *api.Packet) { p.From = 2 },
		func(p *api.Packet) { p.To = 1 },
		func(p *api.Packet) { p.From, p.To = p.To, p.From },
		func(p *api.Packet) { p.Proto = 6 },
		func(p *api.Packet) { p.Id = 8 },
	} {
		have := []api.Heap{heap(7, part(0, 8, false))}
		p := piece(7, 1, text(3), false)
		set(&p)
		h := api.Heap{From: p.From, To: p.To, Proto: p.Proto, Id: p.Id, Parts: []api.Part{part(8, 3, true)}}
		fed(t, fmt.Sprint("other ", i), have, p, append(have, h), api.Packet{}, false, api.OK)
	}
}

// P4.3: if all parts are there, the heap leaves, and the packet has just what the promise names.
func TestFeedOfTheMissingPart(t *testing.T) {
	whole := api.Packet{Tos: 3, Id: 7, Life: 64, Proto: 17, From: 1, To: 2, Options: "opts", Data: text(8) + text(8) + text(3)}
	for i, missing := range []int{0, 1, 2} {
		parts := []api.Part{part(0, 8, false), part(8, 8, false), part(16, 3, true)}
		h := heap(7, slices.Delete(slices.Clone(parts), missing, missing+1)...)
		p := piece(7, missing, parts[missing].Data, !parts[missing].Last)
		if missing > 0 {
			p.Tos, p.Life, p.Options = 99, 98, "97969594"
		}
		for at := range 3 {
			have := slices.Insert(pool(2), at, h)
			fed(t, fmt.Sprintf("missing %d at %d", i, at), have, p, pool(2), whole, true, api.OK)
		}
	}
	greatest := whole
	greatest.Data = text(65512) + "xyz"
	fed(t, "as much as there may be", []api.Heap{heap(7, part(0, 65512, false))}, piece(7, 8189, "xyz", false), nil, greatest, true, api.OK)
	full := heap(7)
	full.Tos, full.Life, full.Options = 3, 64, "opts"
	for i := range 63 {
		full.Parts = append(full.Parts, part(8*i, 8, false))
	}
	whole.Data = strings.Repeat(text(8), 63) + "x"
	fed(t, "the 64th part", []api.Heap{full}, piece(7, 63, "x", false), nil, whole, true, api.OK)
	nothing := heap(7, part(0, 8, false))
	nothing.Tos, nothing.Life, nothing.Options = 0, 0, ""
	whole = api.Packet{Id: 7, Proto: 17, From: 1, To: 2, Data: text(8) + "x"}
	fed(t, "zeros at 0", []api.Heap{nothing}, piece(7, 1, "x", false), nil, whole, true, api.OK)
}

// P4.3: a packet that is no piece is told as it is, and no heap is asked.
func TestFeedOfWhatIsNoPiece(t *testing.T) {
	for i, set := range []func(p *api.Packet){
		func(p *api.Packet) {},
		func(p *api.Packet) { p.Whole = true },
		func(p *api.Packet) { p.Data = "" },
		func(p *api.Packet) { p.Id = 100 },
		func(p *api.Packet) { p.Data = text(65511) },
		func(p *api.Packet) { *p = api.Packet{} },
	} {
		p := packet(set)
		for _, have := range [][]api.Heap{nil, pool(1), pool(16), {heap(7, part(0, 8, false))}} {
			fed(t, fmt.Sprint("packet ", i), have, p, have, p, true, api.OK)
		}
	}
}

// P4.3: just the same part again; what is told of its packet is not looked at.
func TestFeedOfTheSameAgain(t *testing.T) {
	have := []api.Heap{heap(7, part(0, 8, false), part(16, 3, true)), heap(8, append(apart(0, 63), part(2000, 1, true))...)}
	all := []api.Heap{heap(7, part(0, 8, false), part(8, 3, true))}
	other := piece(7, 0, text(8), true)
	other.Tos, other.Life, other.Options = 9, 9, ""
	fed(t, "at 0", have, piece(7, 0, text(8), true), have, api.Packet{}, false, api.OK)
	fed(t, "at 0, with another Life", have, other, have, api.Packet{}, false, api.OK)
	fed(t, "last", have, piece(7, 2, text(3), false), have, api.Packet{}, false, api.OK)
	fed(t, "of 64", have, piece(8, 4, text(8), true), have, api.Packet{}, false, api.OK)
	fed(t, "of 64, last", have, piece(8, 250, text(1), false), have, api.Packet{}, false, api.OK)
	fed(t, "all are there", all, piece(7, 0, text(8), true), all, api.Packet{}, false, api.OK)
	fed(t, "all are there, last", all, piece(7, 1, text(3), false), all, api.Packet{}, false, api.OK)
}

// P4.3: with ErrTwice and ErrFull the heap leaves, and all others stay.
func TestFeedOfPartsThatDoNotFit(t *testing.T) {
	gaps := []api.Part{part(16, 16, false), part(48, 8, false)}
	ends := append(slices.Clone(gaps), part(64, 5, true))
	tight := append(apart(0, 63), part(2000, 8, true))
	all := []api.Part{part(0, 8, false), part(8, 3, true)}
	for _, c := range []struct {
		name  string
		parts []api.Part
		p     api.Packet
		want  api.Errno
	}{
		{"other Data", gaps, piece(7, 2, strings.Repeat("x", 16), true), api.ErrTwice},
		{"the same, but last", gaps[1:], piece(7, 6, text(8), false), api.ErrTwice},
		{"the same, but not last", []api.Part{part(48, 8, true)}, piece(7, 6, text(8), true), api.ErrTwice},
		{"its beginning", gaps, piece(7, 2, text(8), true), api.ErrTwice},
		{"its end", gaps, piece(7, 3, text(8), true), api.ErrTwice},
		{"over its end", gaps, piece(7, 3, text(16), true), api.ErrTwice},
		{"over its beginning", gaps, piece(7, 1, text(16), true), api.ErrTwice},
		{"over all of it", gaps, piece(7, 1, text(32), true), api.ErrTwice},
		{"over two", gaps, piece(7, 3, text(32), true), api.ErrTwice},
		{"from 0 on over two", gaps, piece(7, 0, text(800), true), api.ErrTwice},
		{"by one byte", gaps, piece(7, 6, text(1), false), api.ErrTwice},
		{"over the last one", ends, piece(7, 8, text(8), true), api.ErrTwice},
		{"within the last one", []api.Part{part(64, 20, true)}, piece(7, 9, text(8), true), api.ErrTwice},
		{"behind the last one", ends, piece(7, 9, text(8), true), api.ErrTwice},
		{"far behind the last one", ends, piece(7, 900, text(8), true), api.ErrTwice},
		{"another last behind", ends, piece(7, 9, text(8), false), api.ErrTwice},
		{"another last ahead", ends, piece(7, 7, text(8), false), api.ErrTwice},
		{"last, ahead of all", gaps, piece(7, 1, text(8), false), api.ErrTwice},
		{"last, ahead of one", gaps, piece(7, 4, text(3), false), api.ErrTwice},
		{"all are there, behind", all, piece(7, 2, text(8), true), api.ErrTwice},
		{"all are there, over", all, piece(7, 0, text(16), true), api.ErrTwice},
		{"no room", tight, piece(7, 1, text(8), true), api.ErrFull},
		{"no room between", tight, piece(7, 201, text(8), true), api.ErrFull},
		{"no room for the last", apart(0, 64), piece(7, 900, text(8), false), api.ErrFull},
		{"no room, over another", tight, piece(7, 1, text(16), true), api.ErrTwice},
		{"no room, behind the last", tight, piece(7, 900, text(8), true), api.ErrTwice},
		{"no room, last and ahead", apart(0, 64), piece(7, 1, text(8), false), api.ErrTwice},
	} {
		if e := frag.Check([]api.Heap{heap(7, c.parts...)}); e != api.OK {
			t.Fatalf("%s: Check tells %d", c.name, e)
		}
		for _, at := range []int{0, 1, 3} {
			have := slices.Insert(pool(3), at, heap(7, c.parts...))
			fed(t, c.name, have, c.p, pool(3), api.Packet{}, false, c.want)
		}
	}
}

// P4.3: ErrFull even of the part with which all would be there.
func TestFeedOfThe65thPart(t *testing.T) {
	h := heap(7, part(0, 8, false))
	for i := range 62 {
		h.Parts = append(h.Parts, part(8*i+8, 8, false))
	}
	h.Parts = append(h.Parts, part(8*64, 8, true))
	fed(t, "the gap", []api.Heap{h}, piece(7, 63, text(8), true), nil, api.Packet{}, false, api.ErrFull)
}

// P4.3: of 16 the eldest leaves, if there is a new one, and else none.
func TestFeedOfAFullPool(t *testing.T) {
	now := heap(7, part(16, 8, false))
	fed(t, "a new one of 17", pool(16), piece(7, 2, text(8), true), append(pool(16)[1:], now), api.Packet{}, false, api.OK)
	fed(t, "a new one of 16", pool(15), piece(7, 2, text(8), true), append(pool(15), now), api.Packet{}, false, api.OK)
	whole := api.Packet{Tos: 3, Id: 100, Life: 64, Proto: 17, From: 1, To: 2, Options: "opts", Data: text(8) + text(8) + text(5)}
	fed(t, "the eldest itself", pool(16), piece(100, 1, text(8), true), pool(16)[1:], whole, true, api.OK)
	fed(t, "the eldest, over", pool(16), piece(100, 0, text(16), true), pool(16)[1:], api.Packet{}, false, api.ErrTwice)
	fed(t, "the eldest again", pool(16), piece(100, 0, text(8), true), pool(16), api.Packet{}, false, api.OK)
	fed(t, "wrong", pool(16), piece(7, 2, "", true), pool(16), api.Packet{}, false, api.ErrForm)
	have := []api.Heap(nil)
	for id := range 100 {
		have, _, _, _ = frag.Feed(have, piece(id, 1, text(8), true))
		if len(have) != min(id+1, 16) || have[len(have)-1].Id != id || have[0].Id != max(id-15, 0) {
			t.Fatalf("after %d: %s", id, short(have))
		}
	}
}

// P4.3: wrong packets; of several errors the one that is told first; the pool is as it was.
func TestFeedOfWrongPackets(t *testing.T) {
	bad := []struct {
		name string
		p    api.Packet
		want api.Errno
	}{
		{"Tos", packet(func(p *api.Packet) { p.Tos = 256 }), api.ErrArg},
		{"Life", packet(func(p *api.Packet) { p.Life = -1 }), api.ErrArg},
		{"Proto", packet(func(p *api.Packet) { p.Proto = math.MaxInt }), api.ErrArg},
		{"Id", packet(func(p *api.Packet) { p.Id = 65536 }), api.ErrArg},
		{"Start", packet(func(p *api.Packet) { p.Start = 8192 }), api.ErrArg},
		{"Start that goes round", packet(func(p *api.Packet) { p.Start = math.MinInt }), api.ErrArg},
		{"Options", packet(func(p *api.Packet) { p.Options = "abc" }), api.ErrArg},
		{"whole, and more", packet(func(p *api.Packet) { p.Whole, p.More = true, true }), api.ErrForm},
		{"whole, and a start", packet(func(p *api.Packet) { p.Whole, p.Start = true, 1 }), api.ErrForm},
		{"too large for a packet", packet(func(p *api.Packet) { p.Data = text(65512) }), api.ErrLarge},
		{"too far", piece(7, 8189, text(4), false), api.ErrLarge},
		{"too far by one of eight", piece(7, 8189, text(8), true), api.ErrLarge},
		{"too far, of no multiple of 8", piece(7, 8191, text(3), true), api.ErrLarge},
		{"too far, and nothing", piece(7, 8190, "", false), api.ErrLarge},
		{"too far, over another", piece(7, 1, text(65508), false), api.ErrLarge},
		{"nothing, and more", piece(7, 0, "", true), api.ErrForm},
		{"nothing, last", piece(7, 8, "", false), api.ErrForm},
		{"nothing, as far as there may be", piece(7, 8189, "", true), api.ErrForm},
		{"of 7", piece(7, 0, text(7), true), api.ErrForm},
		{"of 9", piece(7, 5, text(9), true), api.ErrForm},
		{"of 9, over another", piece(100, 0, text(9), true), api.ErrForm},
	}
	for _, c := range bad {
		for _, have := range [][]api.Heap{nil, pool(1), pool(16), {heap(7, part(0, 8, false), part(16, 3, true))}} {
			fed(t, c.name, have, c.p, have, api.Packet{}, false, c.want)
		}
		fed(t, c.name+", in a wrong pool", []api.Heap{{}}, c.p, []api.Heap{{}}, api.Packet{}, false, api.ErrForm)
		fed(t, c.name+", in a pool that is too large", pool(17), c.p, pool(17), api.Packet{}, false, api.ErrLarge)
	}
}

// P4.3: a wrong pool is told as it was, whatever the packet is.
func TestFeedOfWrongPools(t *testing.T) {
	for name, c := range map[string]struct {
		pool []api.Heap
		want api.Errno
	}{
		"nothing in it":   {[]api.Heap{{}}, api.ErrForm},
		"the same four":   {append(pool(3), pool(1)...), api.ErrForm},
		"falling":         {[]api.Heap{heap(7, part(8, 8, false), part(0, 8, false))}, api.ErrForm},
		"far":             {[]api.Heap{heap(7, part(math.MaxInt-7, 8, false))}, api.ErrForm},
		"17 heaps":        {pool(17), api.ErrLarge},
		"very many":       {make([]api.Heap, 3000), api.ErrLarge},
		"65 parts":        {[]api.Heap{heap(7, apart(0, 65)...)}, api.ErrLarge},
		"very many parts": {[]api.Heap{heap(7, make([]api.Part, 3000)...)}, api.ErrLarge},
	} {
		for _, p := range []api.Packet{packet(func(p *api.Packet) {}), piece(7, 1, text(8), true), piece(7, 8191, "", true), {Whole: true, More: true}} {
			fed(t, name, c.pool, p, c.pool, api.Packet{}, false, c.want)
		}
	}
}

// told is one of the packets that a model, which keeps single bytes, has been given in part.
type told struct {
	head  api.Packet
	bytes map[int]byte
	parts map[[2]int]bool
	end   int
}

// feedModel does what P4.3 says with bytes in the place of parts.
func feedModel(l []*told, p api.Packet) ([]*told, api.Packet, bool, api.Errno) {
	at := slices.IndexFunc(l, func(h *told) bool { return h.head.Id == p.Id })
	if at < 0 {
		if len(l) == 16 {
			l = l[1:]
		}
		l = append(l, &told{head: api.Packet{Id: p.Id, Proto: p.Proto, From: p.From, To: p.To}, bytes: map[int]byte{}, parts: map[[2]int]bool{}, end: -1})
		at = len(l) - 1
	}
	h := l[at]
	from, to := 8*p.Start, 8*p.Start+len(p.Data)
	equal, over, beyond := h.parts[[2]int{from, to}] && (h.end == to) == !p.More, false, h.end >= 0 && from >= h.end
	for i := range p.Data {
		b, there := h.bytes[from+i]
		over = over || there
		equal = equal && b == p.Data[i]
	}
	for other := range h.bytes {
		beyond = beyond || !p.More && other >= to
	}
	switch {
	case equal:
		return l, api.Packet{}, false, api.OK
	case over || beyond:
		return slices.Delete(l, at, at+1), api.Packet{}, false, api.ErrTwice
	case len(h.parts) == 64:
		return slices.Delete(l, at, at+1), api.Packet{}, false, api.ErrFull
	}
	h.parts[[2]int{from, to}] = true
	for i := range p.Data {
		h.bytes[from+i] = p.Data[i]
	}
	if p.Start == 0 {
		h.head.Tos, h.head.Life, h.head.Options = p.Tos, p.Life, p.Options
	}
	if !p.More {
		h.end = to
	}
	if h.end < 0 || len(h.bytes) != h.end {
		return l, api.Packet{}, false, api.OK
	}
	q := h.head
	for i := range h.end {
		q.Data += string([]byte{h.bytes[i]})
	}
	return slices.Delete(l, at, at+1), q, true, api.OK
}

// P4.2, P4.3: many pieces, right and wrong ones, of many packets: as the model tells, and each pool is right.
func TestFeedOfManyPieces(t *testing.T) {
	n := uint32(3)
	var have []api.Heap
	var model []*told
	count := map[api.Errno]int{}
	dones := 0
	for i := range 60000 {
		ids, starts := 20, 6
		if i%30000 > 20000 {
			ids, starts = 3, 3000
		}
		p := packet(func(p *api.Packet) {
			p.Id, p.Start, p.More, p.Life = random(&n, ids), random(&n, starts), random(&n, starts) > 0, random(&n, 256)
			p.Data = text(8 + 8*random(&n, 2)*random(&n, 2)*random(&n, 3))
			if random(&n, 30) == 0 {
				p.Data = strings.Repeat("z", len(p.Data))
			}
		})
		if !p.More && p.Start == 0 {
			continue
		}
		var q, r api.Packet
		var ok, done bool
		var e, wrong api.Errno
		have, q, ok, e = frag.Feed(have, p)
		model, r, done, wrong = feedModel(model, p)
		if q != r || ok != done || e != wrong || len(have) != len(model) {
			t.Fatalf("step %d, %v: %v, %v, %d, %d heaps, want %v, %v, %d, %d", i, p, q, ok, e, len(have), r, done, wrong, len(model))
		}
		for k, h := range have {
			if h.Id != model[k].head.Id || h.Life != model[k].head.Life || len(h.Parts) != len(model[k].parts) {
				t.Fatalf("step %d: heap %d is %v, want %v", i, k, h, model[k])
			}
		}
		if e := frag.Check(have); e != api.OK {
			t.Fatalf("step %d: Check tells %d of %s", i, e, short(have))
		}
		count[e]++
		if ok {
			dones++
		}
	}
	if count[api.OK] < 1000 || count[api.ErrTwice] < 1000 || count[api.ErrFull] < 10 || dones < 100 {
		t.Errorf("too little was tried: %v, %d", count, dones)
	}
}

// P4.1, P4.3: pieces of pieces, of many packets at once, are those packets again.
func TestSplitAndFedAgain(t *testing.T) {
	n := uint32(9)
	for round := range 300 {
		var packets, all []api.Packet
		for id := range 16 {
			p := packet(func(p *api.Packet) {
				p.Id, p.Data, p.Options = id, text(100+random(&n, 500)), text(4*random(&n, 11))
			})
			packets = append(packets, p)
			l, e := frag.Split(p, 136+random(&n, 100))
			if e != api.OK {
				t.Fatal(p, e)
			}
			for _, q := range l {
				smaller, e := frag.Split(q, 100+random(&n, 100))
				if e != api.OK {
					t.Fatal(q, e)
				}
				all = append(all, smaller...)
			}
		}
		for i := range all {
			k := i + random(&n, len(all)-i)
			all[i], all[k] = all[k], all[i]
		}
		var have []api.Heap
		found := 0
		for _, p := range all {
			var q api.Packet
			var ok bool
			var e api.Errno
			have, q, ok, e = frag.Feed(have, p)
			if e != api.OK || ok && q != packets[q.Id] {
				t.Fatalf("round %d: %v, %v, %d", round, q, ok, e)
			}
			if ok {
				found++
			}
		}
		if found != 16 || len(have) != 0 {
			t.Fatalf("round %d: %d found, %d heaps are left", round, found, len(have))
		}
	}
}

// P1: each call answers, whatever it is given.
func TestEveryCallAnswers(t *testing.T) {
	n := uint32(5)
	numbers := []int{0, 0, 0, 8, 16, 17, 1, -1, -8, 7, 255, 256, 8189, 8191, 8192, 65512, 65515, 65535, 1 << 32, math.MaxInt, math.MaxInt - 7, math.MinInt, math.MinInt + 8}
	sizes := []int{0, 1, 7, 8, 8, 8, 16, 40, 44, 65512, 65515, 65516, 70000}
	texts := make([]string, len(sizes))
	for i, size := range sizes {
		texts[i] = text(size)
	}
	number := func() int { return numbers[random(&n, len(numbers))] }
	data := func() string { return texts[random(&n, len(texts))] }
	flag := func() bool { return random(&n, 2) == 0 }
	for range 5000 {
		p := api.Packet{Id: number(), Whole: flag() && flag(), More: flag(), Start: number(), Data: data()}
		if flag() {
			p.Tos, p.Life, p.Proto, p.Options = number(), number(), number(), data()
		}
		frag.Split(p, number())
		frag.Split(p, 68+random(&n, 100))
		have := make([]api.Heap, random(&n, 19))
		for i := range have {
			have[i] = api.Heap{Proto: number(), Id: number(), Parts: make([]api.Part, random(&n, 4))}
			if flag() {
				have[i].Tos, have[i].Life, have[i].Options = number(), number(), data()
			}
			for k := range have[i].Parts {
				have[i].Parts[k] = api.Part{At: number(), Data: data(), Last: flag()}
			}
		}
		before := copied(have)
		wrong := frag.Check(have)
		got, q, ok, e := frag.Feed(have, p)
		if wrong != api.OK && (e != wrong || !same(got, before)) || e != api.OK && (ok || q != (api.Packet{})) {
			t.Fatalf("Feed(%s, %s) = %s, %s, %v, %d; Check tells %d", short(have), short(p), short(got), short(q), ok, e, wrong)
		}
		if !same(have, before) {
			t.Fatalf("Feed(%s, %s) changes what it is given", short(before), short(p))
		}
	}
}

// roomy gives a pool with marks in the room behind each of its lists.
func roomy(l []api.Heap) []api.Heap {
	out := append(make([]api.Heap, 0, len(l)+5), l...)
	for i := range out {
		parts := append(make([]api.Part, 0, len(l[i].Parts)+5), l[i].Parts...)
		out[i].Parts = parts
		for k := len(parts); k < cap(parts); k++ {
			parts[:cap(parts)][k].At = -77
		}
	}
	for i := len(out); i < cap(out); i++ {
		out[:cap(out)][i].Id = -77
	}
	return out
}

// scribble writes over all of a pool, the room behind its lists included.
func scribble(l []api.Heap) {
	l = l[:cap(l)]
	for i := range l {
		parts := l[i].Parts[:cap(l[i].Parts)]
		for k := range parts {
			parts[k] = api.Part{At: -5, Data: "scribbled"}
		}
		l[i] = api.Heap{Id: -5, Parts: parts}
	}
}

// whole gives a pool with the room behind its lists.
func whole(l []api.Heap) []api.Heap {
	out := slices.Clone(l[:cap(l)])
	for i := range out {
		out[i].Parts = slices.Clone(out[i].Parts[:cap(out[i].Parts)])
	}
	return out
}

// P2: what is handed in is not changed and not shared, the room behind it included.
func TestAnswersAreNewMemory(t *testing.T) {
	for name, c := range map[string]struct {
		pool []api.Heap
		p    api.Packet
	}{
		"no piece":     {pool(4), packet(func(p *api.Packet) {})},
		"a new heap":   {pool(4), piece(7, 2, text(8), true)},
		"a full pool":  {pool(16), piece(7, 2, text(8), true)},
		"a new part":   {pool(4), piece(103, 0, text(8), true)},
		"part between": {pool(4), piece(101, 2, text(8), true)},
		"the same":     {pool(4), piece(101, 1, text(8), true)},
		"all there":    {pool(4), piece(100, 1, text(8), true)},
		"over":         {pool(4), piece(100, 0, text(16), true)},
		"no room":      {[]api.Heap{heap(6, part(0, 8, false)), heap(7, apart(0, 64)...), heap(8, part(0, 8, false))}, piece(7, 1, text(8), true)},
		"wrong packet": {pool(4), piece(7, 2, "", true)},
		"wrong pool":   {append(pool(4), pool(4)...), piece(7, 2, text(8), true)},
		"too large":    {pool(17), piece(7, 2, text(8), true)},
	} {
		have := roomy(c.pool)
		before := whole(have)
		got, q, ok, e := frag.Feed(have, c.p)
		kept := copied(got)
		if !same(whole(have), before) {
			t.Errorf("%s: what was handed in, or the room behind it, is another", name)
		}
		scribble(have)
		if !same(got, kept) {
			t.Errorf("%s: the answer shares memory with what was handed in", name)
		}
		again, r, done, wrong := frag.Feed(c.pool, c.p)
		if !same(again, kept) || q != r || ok != done || e != wrong {
			t.Errorf("%s: answered otherwise when it is asked again", name)
		}
		for i := range got {
			all := got[i].Parts[:cap(got[i].Parts)]
			for k := range all {
				all[k] = api.Part{At: -9}
			}
			if !same(got[i+1:], kept[i+1:]) {
				t.Errorf("%s: two lists of the answer share memory", name)
			}
		}
		scribble(got)
		scribble(again)
		third, _, _, _ := frag.Feed(c.pool, c.p)
		if !same(third, kept) {
			t.Errorf("%s: the answer was shared with a later one, or with what was handed in", name)
		}
	}
}

// P2: lists of Split are not shared from call to call either, and Check changes nothing.
func TestNothingIsKept(t *testing.T) {
	p := packet(func(p *api.Packet) {})
	for _, most := range []int{68, 1500} {
		first, _ := frag.Split(p, most)
		kept := slices.Clone(first)
		clear(first[:cap(first)])
		if again, e := frag.Split(p, most); !slices.Equal(again, kept) || e != api.OK {
			t.Errorf("Split is answered otherwise when it is asked again: %v, %d", again, e)
		}
	}
	for _, l := range [][]api.Heap{pool(16), pool(17), {heap(7, part(8, 8, false), part(0, 8, false))}} {
		have := roomy(l)
		before := whole(have)
		e := frag.Check(have)
		if !same(whole(have), before) || frag.Check(have) != e {
			t.Errorf("Check of %d heaps changes them", len(l))
		}
	}
}
