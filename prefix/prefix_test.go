package prefix_test

import (
	"maps"
	"math"
	"slices"
	"testing"

	"customshouse/api"
	"customshouse/prefix"
)

// nets are what is in a trie, by the words of the chapter.
type nets map[api.Net]int

func net(addr uint32, long int) api.Net { return api.Net{Addr: addr, Long: long} }

func node(left, right int) api.Node { return api.Node{Next: [2]int{left, right}} }

func setNode(left, right, value int) api.Node {
	return api.Node{Next: [2]int{left, right}, Set: true, Value: value}
}

func trie(nodes ...api.Node) api.Trie { return api.Trie{Nodes: nodes} }

func random(n *uint64) uint64 {
	*n = *n*6364136223846793005 + 1442695040888963407
	x := *n
	x = (x ^ x>>33) * 0xff51afd7ed558ccd
	return x ^ x>>33
}

// far are numbers that are out of all bounds; some of them would be in them, if their high bits were lost.
func far() []int {
	return []int{
		-1, -2, -8, -31, -32, -33, -500, -1 << 8, -1<<8 + 1, 501, 1000, 1 << 8, 1<<8 + 1, 1 << 16, 1<<16 + 1, 1<<31 + 1,
		math.MaxInt32, math.MinInt32, 1 << 32, 1<<32 + 1, 1<<32 + 8, -1 << 32, -1<<32 + 1, -1<<32 + 8,
		math.MaxInt, math.MaxInt - 1, math.MaxInt - 31, math.MinInt, math.MinInt + 1, math.MinInt + 8, math.MinInt + 32,
	}
}

// size is how many addresses have the same first long bits.
func size(long int) uint64 {
	many := uint64(1)
	for range 32 - long {
		many *= 2
	}
	return many
}

func isNet(n api.Net) bool {
	return n.Long >= 0 && n.Long <= 32 && uint64(n.Addr)%size(n.Long) == 0
}

func has(n api.Net, a uint32) bool {
	return uint64(a)/size(n.Long) == uint64(n.Addr)/size(n.Long)
}

// start is the net of the first long bits of n.
func start(n api.Net, long int) api.Net {
	return net(uint32(uint64(n.Addr)/size(long)*size(long)), long)
}

func order(a, b api.Net) int {
	switch {
	case a.Addr != b.Addr && a.Addr < b.Addr:
		return -1
	case a.Addr != b.Addr:
		return 1
	}
	return a.Long - b.Long
}

// trieOf has a node for each beginning of a net of m, in their order, and no other.
func trieOf(m nets) api.Trie {
	number := map[api.Net]int{}
	for n := range m {
		for long := 0; long <= n.Long; long++ {
			number[start(n, long)] = 0
		}
	}
	places := slices.SortedFunc(maps.Keys(number), order)
	for i, n := range places {
		number[n] = i
	}
	var t api.Trie
	for _, n := range places {
		value, set := m[n]
		next := api.Node{Set: set, Value: value}
		if n.Long < 32 {
			next.Next[0] = number[net(n.Addr, n.Long+1)]
			next.Next[1] = number[net(n.Addr+uint32(size(n.Long+1)), n.Long+1)]
		}
		t.Nodes = append(t.Nodes, next)
	}
	return t
}

// below are all nodes that are come to by way of number at, itself among them, if it is one; each of them once.
func below(t api.Trie, at int) map[int]bool {
	seen := map[int]bool{}
	for work := []int{at}; len(work) > 0; work = work[1:] {
		i := work[0]
		if i > 0 && i < len(t.Nodes) && !seen[i] {
			seen[i] = true
			work = append(work, t.Nodes[i].Next[0], t.Nodes[i].Next[1])
		}
	}
	return seen
}

// inOneRow tells whether no other numbers are between those, and the least and the greatest of them.
func inOneRow(numbers map[int]bool) (bool, int, int) {
	list := slices.Sorted(maps.Keys(numbers))
	return list[len(list)-1]-list[0] == len(list)-1, list[0], list[len(list)-1]
}

// isInOrder tells it of the node at, by the words of P13.1.
func isInOrder(t api.Trie, at int) bool {
	behind := at
	for _, next := range t.Nodes[at].Next {
		if next == 0 {
			continue
		}
		row, first, last := inOneRow(below(t, next))
		if !row || first <= behind {
			return false
		}
		behind = last
	}
	return true
}

// comes is by how many ways each node is come to, and whether all ways lead to a node.
func comes(t api.Trie) ([]int, bool) {
	many := make([]int, len(t.Nodes))
	for _, n := range t.Nodes {
		for _, next := range n.Next {
			if next < 0 || next > len(t.Nodes)-1 {
				return nil, false
			}
			many[next]++
		}
	}
	return many, true
}

// deepest is the most bits that a node stands for, where a node is ahead of those that are come to by it.
func deepest(t api.Trie) int {
	deep := make([]int, len(t.Nodes))
	for i, n := range t.Nodes {
		for _, next := range n.Next {
			if next != 0 {
				deep[next] = deep[i] + 1
			}
		}
	}
	return slices.Max(deep)
}

// checkOf is Check by the words of P13.1.
func checkOf(t api.Trie) api.Errno {
	if len(t.Nodes) == 0 {
		return api.OK
	}
	if len(t.Nodes) > 500 {
		return api.ErrLarge
	}
	many, inside := comes(t)
	if !inside {
		return api.ErrForm
	}
	for i, n := range t.Nodes {
		hasWay := n.Next[0] != 0 || n.Next[1] != 0
		if i > 0 && many[i] != 1 || !n.Set && n.Value != 0 || !n.Set && i > 0 && !hasWay || !isInOrder(t, i) {
			return api.ErrForm
		}
	}
	if deepest(t) > 32 || len(t.Nodes) == 1 && !t.Nodes[0].Set {
		return api.ErrForm
	}
	return api.OK
}

// findOf is Find by the words of P13.3.
func findOf(m nets, a uint32) (api.Net, int, api.Errno) {
	for long := 32; long >= 0; long-- {
		for n, value := range m {
			if n.Long == long && has(n, a) {
				return n, value, api.OK
			}
		}
	}
	return api.Net{}, 0, api.ErrNone
}

func same(a, b api.Trie) bool { return slices.Equal(a.Nodes, b.Nodes) }

func puts(t *testing.T, x api.Trie, n api.Net, value int, want api.Trie) api.Trie {
	t.Helper()
	y, e := prefix.Put(x, n, value)
	if !same(y, want) || e != api.OK {
		t.Fatalf("Put(%v, %v, %d) = %v, error %d; want %v", x, n, value, y, e, want)
	}
	return y
}

func noPut(t *testing.T, x api.Trie, n api.Net, value int, wrong api.Errno) {
	t.Helper()
	if y, e := prefix.Put(x, n, value); y.Nodes != nil || e != wrong {
		t.Fatalf("Put(%v, %v, %d) = %v, error %d; want error %d", x, n, value, y, e, wrong)
	}
}

func removes(t *testing.T, x api.Trie, n api.Net, want api.Trie) api.Trie {
	t.Helper()
	y, e := prefix.Remove(x, n)
	if !same(y, want) || e != api.OK {
		t.Fatalf("Remove(%v, %v) = %v, error %d; want %v", x, n, y, e, want)
	}
	return y
}

func noRemove(t *testing.T, x api.Trie, n api.Net, wrong api.Errno) {
	t.Helper()
	if y, e := prefix.Remove(x, n); y.Nodes != nil || e != wrong {
		t.Fatalf("Remove(%v, %v) = %v, error %d; want error %d", x, n, y, e, wrong)
	}
}

func finds(t *testing.T, x api.Trie, a uint32, n api.Net, value int) {
	t.Helper()
	if m, v, e := prefix.Find(x, a); m != n || v != value || e != api.OK {
		t.Fatalf("Find(%v, %x) = %v, %d, error %d; want %v, %d", x, a, m, v, e, n, value)
	}
}

func noFind(t *testing.T, x api.Trie, a uint32, wrong api.Errno) {
	t.Helper()
	if n, value, e := prefix.Find(x, a); n != (api.Net{}) || value != 0 || e != wrong {
		t.Fatalf("Find(%v, %x) = %v, %d, error %d; want error %d", x, a, n, value, e, wrong)
	}
}

// isAll holds All against m, by the words of P13.3.
func isAll(t *testing.T, x api.Trie, m nets) {
	t.Helper()
	list := slices.SortedFunc(maps.Keys(m), order)
	told, values, e := prefix.All(x)
	if !slices.Equal(told, list) || len(values) != len(list) || e != api.OK {
		t.Fatalf("All(%v) = %v, %v, error %d; want %v", x, told, values, e, list)
	}
	for i, n := range list {
		if values[i] != m[n] {
			t.Fatalf("All(%v) tells the value %d of %v; want %d", x, values[i], n, m[n])
		}
	}
}

// is holds all that x answers against m: what is in it, and what is there for one net more, and one less.
func is(t *testing.T, x api.Trie, m nets, others ...api.Net) {
	t.Helper()
	if e := prefix.Check(x); e != api.OK {
		t.Fatalf("Check(%v) = %d", x, e)
	}
	isAll(t, x, m)
	for _, n := range others {
		if isNet(n) {
			for _, a := range []uint32{n.Addr, n.Addr - 1, n.Addr + uint32(size(n.Long)-1), n.Addr + uint32(size(n.Long))} {
				if found, value, wrong := findOf(m, a); wrong == api.OK {
					finds(t, x, a, found, value)
				} else {
					noFind(t, x, a, wrong)
				}
			}
		}
		step(t, x, m, n)
	}
}

func step(t *testing.T, x api.Trie, m nets, n api.Net) {
	t.Helper()
	less := maps.Clone(m)
	delete(less, n)
	if _, set := m[n]; set {
		removes(t, x, n, trieOf(less))
	} else {
		noRemove(t, x, n, api.ErrNone)
	}
	if !isNet(n) {
		noPut(t, x, n, 7, api.ErrArg)
		return
	}
	if less[n] = -5; len(trieOf(less).Nodes) > 500 {
		noPut(t, x, n, -5, api.ErrLarge)
	} else {
		puts(t, x, n, -5, trieOf(less))
	}
}

func isWrong(t *testing.T, x api.Trie, wrong api.Errno) {
	t.Helper()
	if e := prefix.Check(x); e != wrong {
		t.Fatalf("Check(%v) = %d, want %d", x, e, wrong)
	}
	if list, values, e := prefix.All(x); list != nil || values != nil || e != wrong {
		t.Fatalf("All(%v) = %v, %v, error %d; want error %d", x, list, values, e, wrong)
	}
	for _, n := range []api.Net{{}, net(0, 1), net(1<<31, 1), net(5, 32), net(1, 31), net(0, -1), net(0, 33), net(0, math.MinInt)} {
		noPut(t, x, n, 1, wrong)
		noRemove(t, x, n, wrong)
		noFind(t, x, n.Addr, wrong)
	}
}

// full is a trie of 500 nodes.
func full() nets {
	m := nets{}
	for i := range 128 {
		m[net(uint32(i)<<25, 7)] = i
	}
	for i := range 245 {
		m[net(uint32(i)<<24, 8)] = -i
	}
	return m
}

// chain has a node for each number of bits up to long, the last one of them Set.
func chain(long, bit int) api.Trie {
	var t api.Trie
	for i := range long {
		n := api.Node{}
		n.Next[bit] = i + 1
		t.Nodes = append(t.Nodes, n)
	}
	t.Nodes = append(t.Nodes, setNode(0, 0, 9))
	return t
}

// P13.1, P13.2 and P13.3: with no node there is no net.
func TestNoNode(t *testing.T) {
	for _, x := range []api.Trie{{}, trie(), {Nodes: make([]api.Node, 0, 4)}} {
		is(t, x, nets{}, net(0, 0), net(1<<31, 1), net(77, 32), net(1, 31), net(0, 33), net(0, -1))
	}
}

// P13.1: the root alone.
func TestCheckOfTheRoot(t *testing.T) {
	is(t, trie(setNode(0, 0, 0)), nets{net(0, 0): 0}, net(0, 0), net(1<<31, 1))
	is(t, trie(setNode(0, 0, math.MinInt)), nets{net(0, 0): math.MinInt}, net(0, 0), net(5, 32))
	isWrong(t, trie(api.Node{}), api.ErrForm)
	isWrong(t, trie(api.Node{Value: 1}), api.ErrForm)
	isWrong(t, trie(node(0, 1)), api.ErrForm)
	isWrong(t, trie(setNode(0, 1, 0)), api.ErrForm)
	isWrong(t, trie(setNode(-1, 0, 0)), api.ErrForm)
}

// P13.1: each of its words, with a trie that is wrong by this one alone.
func TestCheckOfWrongForms(t *testing.T) {
	right := trie(node(1, 4), setNode(2, 3, 5), setNode(0, 0, 6), setNode(0, 0, 7), node(0, 5), setNode(0, 0, 8))
	if e := prefix.Check(right); e != api.OK {
		t.Fatal(e)
	}
	for name, change := range map[string]func(n []api.Node){
		"a way above the others":   func(n []api.Node) { n[4].Next[0] = 6 },
		"a way below 0":            func(n []api.Node) { n[4].Next[0] = -1 },
		"come to by two ways":      func(n []api.Node) { n[4].Next[0] = 5 },
		"come to from two nodes":   func(n []api.Node) { n[4].Next[0] = 2 },
		"come to by no way":        func(n []api.Node) { n[1].Next[1] = 0 },
		"no way of the root":       func(n []api.Node) { n[0].Next = [2]int{} },
		"a way to itself":          func(n []api.Node) { n[4].Next[0] = 4 },
		"a way up":                 func(n []api.Node) { n[5].Next[0] = 4 },
		"ways in a ring":           func(n []api.Node) { n[0].Next[1], n[5].Next[1] = 0, 4 },
		"way 1 ahead of way 0":     func(n []api.Node) { n[1].Next = [2]int{3, 2} },
		"way 1 of the root ahead":  func(n []api.Node) { n[0].Next = [2]int{4, 1} },
		"another node between":     func(n []api.Node) { n[1].Next[1], n[4].Next[1] = 5, 3 },
		"a value that isn't Set":   func(n []api.Node) { n[4].Value = 1 },
		"a value of the root":      func(n []api.Node) { n[0].Value = -1 },
		"an end that isn't Set":    func(n []api.Node) { n[2].Set, n[2].Value = false, 0 },
		"the last one isn't Set":   func(n []api.Node) { n[5].Set, n[5].Value = false, 0 },
		"an end with just a value": func(n []api.Node) { n[3].Set = false },
	} {
		wrong := trie(slices.Clone(right.Nodes)...)
		change(wrong.Nodes)
		if checkOf(wrong) != api.ErrForm {
			t.Errorf("%s is right by the words", name)
		}
		isWrong(t, wrong, api.ErrForm)
	}
}

// P13.1: a way may not be any of these, however far, wherever it is.
func TestCheckOfFarWays(t *testing.T) {
	for _, x := range []api.Trie{trieOf(nets{net(0, 1): 1, net(1<<31, 8): 2}), chain(32, 1), trieOf(full())} {
		for at := range x.Nodes {
			for bit := range 2 {
				for _, way := range append(far(), len(x.Nodes), -at) {
					if way >= 0 && way < len(x.Nodes) {
						continue
					}
					y := trie(slices.Clone(x.Nodes)...)
					y.Nodes[at].Next[bit] = way
					if e := prefix.Check(y); e != api.ErrForm {
						t.Fatalf("Check with the way %d of node %d: %d", way, at, e)
					}
				}
			}
		}
	}
}

// P13.1: 32 bits and no more.
func TestCheckOfLongWays(t *testing.T) {
	for bit := range 2 {
		for long := 0; long <= 32; long++ {
			n := net(0-uint32(bit)*uint32(size(long)), long)
			is(t, chain(long, bit), nets{n: 9}, n, net(n.Addr, 32), net(0, 0))
		}
		for _, long := range []int{33, 34, 40, 64, 100, 499} {
			isWrong(t, chain(long, bit), api.ErrForm)
		}
		// Each node stands for a net, and the last one for too many bits.
		y := chain(33, bit)
		for i := range y.Nodes {
			y.Nodes[i].Set = true
		}
		isWrong(t, y, api.ErrForm)
	}
}

// P13.1: 500 nodes are not too many; that there are more is told ahead of all else.
func TestCheckOfManyNodes(t *testing.T) {
	x := trieOf(full())
	if e := prefix.Check(x); e != api.OK || len(x.Nodes) != 500 {
		t.Fatal(e, len(x.Nodes))
	}
	m := full()
	m[net(245<<24, 8)] = 1
	large := trieOf(m)
	isWrong(t, large, api.ErrLarge)
	large.Nodes[3].Next[0] = 3
	isWrong(t, large, api.ErrLarge)
	for _, many := range []int{501, 502, 756, 1000, 1 << 16, 1<<16 + 1} {
		isWrong(t, trie(make([]api.Node, many)...), api.ErrLarge)
		isWrong(t, chain(many-1, 0), api.ErrLarge)
	}
	isWrong(t, trie(make([]api.Node, 500)...), api.ErrForm)
}

// P13.1: all ways that up to three nodes can have, and some that they can't.
func TestCheckOfAllFewNodes(t *testing.T) {
	sorts := []api.Node{{}, {Set: true}, {Value: 1}}
	for many := 1; many <= 3; many++ {
		x := trie(make([]api.Node, many)...)
		var fill func(at int)
		fill = func(at int) {
			if at == many {
				if e, want := prefix.Check(x), checkOf(x); e != want {
					t.Fatalf("Check(%v) = %d, want %d", x, e, want)
				}
				return
			}
			for way := range (many + 2) * (many + 2) {
				for _, sort := range sorts {
					x.Nodes[at] = sort
					x.Nodes[at].Next = [2]int{way/(many+2) - 1, way%(many+2) - 1}
					fill(at + 1)
				}
			}
		}
		fill(0)
	}
}

// P13.1: all ways that four nodes can have among each other.
func TestCheckOfFourNodes(t *testing.T) {
	x := trie(make([]api.Node, 4)...)
	right := 0
	for code := range 1 << 20 {
		rest := code
		for i := range x.Nodes {
			x.Nodes[i] = api.Node{Next: [2]int{rest & 3, rest >> 2 & 3}, Set: rest>>4&1 == 1}
			rest >>= 5
		}
		e := prefix.Check(x)
		if want := checkOf(x); e != want {
			t.Fatalf("Check(%v) = %d, want %d", x, e, want)
		}
		if e == api.OK {
			right++
		}
	}
	// Of the 14 forms that four nodes have 8 have one end, 6 two; a node that is no end may be Set or not.
	if right != 8*8+6*4 {
		t.Errorf("%d are right", right)
	}
}

// P13.1: right ones in which one thing is another.
func TestCheckOfNearlyRight(t *testing.T) {
	seed := uint64(4)
	for range 3000 {
		m := nets{}
		for range 1 + random(&seed)%6 {
			n := start(net(uint32(random(&seed)), 32), int(random(&seed)%6))
			m[n] = int(random(&seed) % 3)
		}
		x := trieOf(m)
		for range 20 {
			y := trie(slices.Clone(x.Nodes)...)
			n := &y.Nodes[random(&seed)%uint64(len(y.Nodes))]
			switch random(&seed) % 5 {
			case 0, 1:
				n.Next[random(&seed)%2] = int(random(&seed)%uint64(len(y.Nodes)+3)) - 1
			case 2:
				n.Next[0], n.Next[1] = n.Next[1], n.Next[0]
			case 3:
				n.Set = !n.Set
			case 4:
				n.Value = int(random(&seed)%3) - 1
			}
			if want := checkOf(y); want != prefix.Check(y) {
				t.Fatalf("Check(%v) = %d, want %d", y, prefix.Check(y), want)
			} else if want != api.OK {
				isWrong(t, y, want)
			}
		}
	}
}

// P13.2: the example of the chapter's order: a node, those by its way 0, those by its way 1.
func TestPut(t *testing.T) {
	x := puts(t, api.Trie{}, net(0xc0000000, 2), 3, trie(node(0, 1), node(0, 2), setNode(0, 0, 3)))
	x = puts(t, x, net(0, 1), 0, trie(node(1, 2), setNode(0, 0, 0), node(0, 3), setNode(0, 0, 3)))
	x = puts(t, x, net(0x80000000, 2), -1,
		trie(node(1, 2), setNode(0, 0, 0), node(3, 4), setNode(0, 0, -1), setNode(0, 0, 3)))
	x = puts(t, x, net(0, 0), 5, trie(setNode(1, 2, 5), setNode(0, 0, 0), node(3, 4), setNode(0, 0, -1), setNode(0, 0, 3)))
	x = puts(t, x, net(0xc0000000, 2), 0,
		trie(setNode(1, 2, 5), setNode(0, 0, 0), node(3, 4), setNode(0, 0, -1), setNode(0, 0, 0)))
	x = puts(t, x, net(0x80000000, 1), math.MaxInt,
		trie(setNode(1, 2, 5), setNode(0, 0, 0), setNode(3, 4, math.MaxInt), setNode(0, 0, -1), setNode(0, 0, 0)))
	puts(t, x, net(0x40000000, 2), 1, trie(setNode(1, 3, 5), setNode(0, 2, 0), setNode(0, 0, 1),
		setNode(4, 5, math.MaxInt), setNode(0, 0, -1), setNode(0, 0, 0)))
}

// P13.2: what is no net is told so, ahead of that there would be too many nodes.
func TestPutOfNoNet(t *testing.T) {
	var wrong []api.Net
	for _, long := range append(far(), 33, 34, 63, 64, 65, 96, 288) {
		wrong = append(wrong, net(0, long), net(1<<31, long), net(math.MaxUint32, long))
	}
	for long := range 32 {
		wrong = append(wrong, net(1, long), net(math.MaxUint32, long), net(uint32(size(long)/2), long))
		wrong = append(wrong, net(0xa5a5a5a5, long), net(1<<31|1, long))
	}
	for _, m := range []nets{{}, {net(0, 0): 1}, {net(1, 32): 2, net(1<<31, 1): 3}, full()} {
		x := trieOf(m)
		for _, n := range wrong {
			if isNet(n) {
				t.Fatalf("%v is a net", n)
			}
			noPut(t, x, n, 1, api.ErrArg)
			noRemove(t, x, n, api.ErrNone)
		}
	}
}

// P13.2: 500 nodes and no more; what asks for no other node is still put.
func TestPutOfTooMany(t *testing.T) {
	x := trieOf(full())
	noPut(t, x, net(245<<24, 8), 1, api.ErrLarge)
	noPut(t, x, net(0, 9), 1, api.ErrLarge)
	noPut(t, x, net(math.MaxUint32, 32), 1, api.ErrLarge)
	noPut(t, x, net(0, 32), 1, api.ErrLarge)
	is(t, x, full(), net(0, 0), net(0, 6), net(1<<25, 7), net(244<<24, 8), net(245<<24, 8))
	// With one node less the last one is put again, but not one that asks for two.
	less := full()
	delete(less, net(244<<24, 8))
	y := removes(t, x, net(244<<24, 8), trieOf(less))
	noPut(t, y, net(244<<24, 9), 1, api.ErrLarge)
	puts(t, y, net(244<<24, 8), -244, x)
	puts(t, y, net(7<<24, 9), 1, trieOf(func() nets { less[net(7<<24, 9)] = 1; return less }()))
}

// P13.2: with long ways, too, there are at most 500.
func TestPutOfManyLongOnes(t *testing.T) {
	m, x := nets{}, api.Trie{}
	for i := range 40 {
		n := net(uint32(i)*0x9e3779b9, 32)
		m[n] = i
		want := trieOf(m)
		if len(want.Nodes) > 500 {
			noPut(t, x, n, i, api.ErrLarge)
			delete(m, n)
			continue
		}
		x = puts(t, x, n, i, want)
	}
	if len(x.Nodes) < 470 {
		t.Errorf("just %d nodes", len(x.Nodes))
	}
	for n, value := range m {
		finds(t, x, n.Addr, n, value)
	}
}

// P13.2: no node is left that nothing is behind, and no net at last.
func TestRemove(t *testing.T) {
	x := trieOf(nets{net(0, 0): 1, net(0xc0000000, 2): 2, net(0xffffffff, 32): 3, net(0x80000000, 2): 4})
	x = removes(t, x, net(0xffffffff, 32), trie(setNode(0, 1, 1), node(2, 3), setNode(0, 0, 4), setNode(0, 0, 2)))
	noRemove(t, x, net(0xffffffff, 32), api.ErrNone)
	noRemove(t, x, net(0x80000000, 1), api.ErrNone)
	x = removes(t, x, net(0, 0), trie(node(0, 1), node(2, 3), setNode(0, 0, 4), setNode(0, 0, 2)))
	noRemove(t, x, net(0, 0), api.ErrNone)
	x = removes(t, x, net(0x80000000, 2), trie(node(0, 1), node(0, 2), setNode(0, 0, 2)))
	removes(t, x, net(0xc0000000, 2), api.Trie{})
	// A node that others are by way of stays, though it isn't Set any more, and has no Value then.
	y := trieOf(nets{net(0, 1): 7, net(0, 3): 8})
	y = removes(t, y, net(0, 1), trie(node(1, 0), node(2, 0), node(3, 0), setNode(0, 0, 8)))
	removes(t, y, net(0, 3), api.Trie{})
	// Of two in one another the outer one's node is left.
	removes(t, trieOf(nets{net(0, 1): 7, net(0, 3): 8}), net(0, 3), trie(node(1, 0), setNode(0, 0, 7)))
	removes(t, trie(setNode(0, 0, 5)), net(0, 0), api.Trie{})
}

// P13.3, and example 13 of the document: of a net in a net the inner one is found.
func TestFind(t *testing.T) {
	x := trieOf(nets{net(0x0a000000, 8): 1, net(0x0a010000, 16): 2, net(0x0a010200, 24): 0, net(0x0a010203, 32): -4})
	finds(t, x, 0x0a010203, net(0x0a010203, 32), -4)
	finds(t, x, 0x0a010202, net(0x0a010200, 24), 0)
	finds(t, x, 0x0a0102ff, net(0x0a010200, 24), 0)
	finds(t, x, 0x0a010300, net(0x0a010000, 16), 2)
	finds(t, x, 0x0a020203, net(0x0a000000, 8), 1)
	finds(t, x, 0x0a000000, net(0x0a000000, 8), 1)
	finds(t, x, 0x0affffff, net(0x0a000000, 8), 1)
	for _, a := range []uint32{0, 1, 0x09ffffff, 0x0b000000, 0x8a010203, math.MaxUint32} {
		noFind(t, x, a, api.ErrNone)
	}
	x = trieOf(nets{net(0, 0): 6})
	for _, a := range []uint32{0, 1, 1 << 31, math.MaxUint32} {
		finds(t, x, a, net(0, 0), 6)
	}
	// On the way to the net of 31 bits there is none that is Set.
	x = trieOf(nets{net(6, 31): 0})
	finds(t, x, 6, net(6, 31), 0)
	finds(t, x, 7, net(6, 31), 0)
	noFind(t, x, 5, api.ErrNone)
	noFind(t, x, 8, api.ErrNone)
}

// P13.3: by Addr, and of one Addr the lesser Long first.
func TestAll(t *testing.T) {
	m := nets{
		net(0, 0): 1, net(0, 1): 2, net(0, 32): 3, net(1, 32): 4, net(0x40000000, 2): 5, net(0x40000000, 31): 6,
		net(0x7fffffff, 32): 7, net(1<<31, 1): 8, net(1<<31, 2): 9, net(0xc0000000, 2): 10, net(math.MaxUint32, 32): 0,
	}
	list, values, e := prefix.All(trieOf(m))
	want := []api.Net{
		{Addr: 0, Long: 0}, {Addr: 0, Long: 1}, {Addr: 0, Long: 32}, {Addr: 1, Long: 32}, {Addr: 0x40000000, Long: 2},
		{Addr: 0x40000000, Long: 31}, {Addr: 0x7fffffff, Long: 32}, {Addr: 1 << 31, Long: 1}, {Addr: 1 << 31, Long: 2},
		{Addr: 0xc0000000, Long: 2}, {Addr: math.MaxUint32, Long: 32},
	}
	if !slices.Equal(list, want) || !slices.Equal(values, []int{1, 2, 3, 4, 5, 6, 7, 8, 9, 10, 0}) || e != api.OK {
		t.Errorf("All = %v, %v, error %d", list, values, e)
	}
	isAll(t, trieOf(full()), full())
}

// P13.2 and P13.3: all sets of the nets of up to two bits, and each net that could come or go.
func TestAllSmallTries(t *testing.T) {
	var small []api.Net
	for long := range 3 {
		for i := range 1 << long {
			small = append(small, net(uint32(uint64(i)*size(long)), long))
		}
	}
	others := append(slices.Clone(small), net(0xe0000000, 3), net(0x20000000, 3), net(0x60000001, 32), net(1, 31))
	for sets := range 1 << len(small) {
		m := nets{}
		for i, n := range small {
			if sets>>i&1 == 1 {
				m[n] = i - 3
			}
		}
		is(t, trieOf(m), m, others...)
	}
}

// P1, P13.2 and P13.3: any steps, near each other and far from each other.
func TestAnySteps(t *testing.T) {
	for seed := uint64(1); seed <= 12; seed++ {
		n := seed
		m, x := nets{}, api.Trie{}
		for i := range 250 {
			other := someNet(&n, int(seed%4))
			is(t, x, m, other)
			// More come than go for a while, and then more go.
			if random(&n)%8 < uint64(2+i/80%2*4) && len(m) > 0 {
				list := slices.SortedFunc(maps.Keys(m), order)
				other = list[random(&n)%uint64(len(list))]
				delete(m, other)
				x = removes(t, x, other, trieOf(m))
			} else if y, e := prefix.Put(x, other, i%5-2); e == api.OK {
				m[other] = i%5 - 2
				x = y
			}
			if want := trieOf(m); !same(x, want) {
				t.Fatalf("after %d steps: %v, want %v", i, x, want)
			}
		}
	}
}

// someNet is one of few bits, one of any, one of many with the same first ones, or a single address.
func someNet(n *uint64, sort int) api.Net {
	a := net(uint32(random(n)), 32)
	switch sort {
	case 0:
		return start(a, int(random(n)%6))
	case 1:
		return start(a, int(random(n)%33))
	case 2:
		return start(net(0x0a010000|a.Addr&15, 32), 26+int(random(n)%7))
	}
	return a
}

// P13.2: what is put and removed again leaves all as it was.
func TestRemoveUndoesPut(t *testing.T) {
	seed := uint64(9)
	for sort := range 4 {
		m := nets{}
		for range 12 {
			m[someNet(&seed, sort)] = 5
		}
		x := trieOf(m)
		for range 100 {
			n := someNet(&seed, sort)
			if _, set := m[n]; !set {
				y, e := prefix.Put(x, n, 0)
				if e != api.OK {
					t.Fatal(e)
				}
				removes(t, y, n, x)
			}
		}
	}
}

// What a net is, and what is in it, for those who have nets too; with what is no net there is nothing.
func TestNets(t *testing.T) {
	some := []uint32{0, 1, 2, 0x0a010203, 0x7fffffff, 1 << 31, 0xc0000000, math.MaxUint32}
	longs := far()
	for long := range 70 {
		longs = append(longs, long)
	}
	for _, long := range longs {
		for _, a := range some {
			list := []api.Net{net(a, long)}
			if long >= 0 && long <= 32 {
				list = append(list, start(net(a, 32), long))
			}
			for _, n := range list {
				if prefix.IsNet(n) != isNet(n) {
					t.Errorf("IsNet(%v) = %t", n, prefix.IsNet(n))
				}
				for _, b := range append(some, a-1, a+1, a^1<<31, a^1<<16) {
					if want := isNet(n) && has(n, b); prefix.Has(n, b) != want {
						t.Errorf("Has(%v, %x) = %t", n, b, !want)
					}
				}
			}
		}
	}
}

// withRoom has spare room behind its nodes, which isn't bare.
func withRoom(t api.Trie) api.Trie {
	list := make([]api.Node, 0, len(t.Nodes)+40)
	list = append(list, t.Nodes...)
	room := list[len(list):cap(list)]
	for i := range room {
		room[i] = setNode(i, -i, 1000+i)
	}
	return api.Trie{Nodes: list}
}

// P2.
func TestNothingIsChanged(t *testing.T) {
	for _, m := range []nets{{}, {net(0, 0): 1}, {net(0, 3): 1, net(1<<31, 1): 2, net(0, 32): 5}, full()} {
		x := withRoom(trieOf(m))
		before := slices.Clone(x.Nodes[:cap(x.Nodes)])
		for _, n := range []api.Net{net(0, 0), net(0, 1), net(0, 3), net(0, 32), net(1<<31, 1), net(5, 32), net(1, 0)} {
			prefix.Check(x)
			prefix.Put(x, n, 77)
			prefix.Remove(x, n)
			prefix.Find(x, n.Addr)
			prefix.All(x)
			if !slices.Equal(x.Nodes[:cap(x.Nodes)], before) {
				t.Fatalf("with %v the trie was changed", n)
			}
		}
	}
}

// P2: what is answered is new, its spare room too, and no two lists share any.
func TestAnswersAreNew(t *testing.T) {
	scribble := func(list []api.Node) {
		for i := range list[:cap(list)] {
			list[:cap(list)][i] = setNode(-1, -1, -99)
		}
	}
	for _, m := range []nets{{net(0, 0): 1}, {net(0, 3): 1, net(1<<31, 1): 2, net(0, 32): 5}, full()} {
		want := trieOf(m)
		x := withRoom(want)
		before := slices.Clone(x.Nodes[:cap(x.Nodes)])
		for n, value := range m {
			y := puts(t, x, n, value, want)
			z := puts(t, x, n, value, want)
			scribble(y.Nodes)
			if !same(z, want) {
				t.Fatalf("two answers share memory")
			}
			w, _ := prefix.Remove(x, n)
			scribble(w.Nodes)
		}
		list, values, _ := prefix.All(x)
		for i := range list[:cap(list)] {
			list[:cap(list)][i] = net(3, 3)
		}
		for i := range values[:cap(values)] {
			values[:cap(values)][i] = -7
		}
		if !slices.Equal(x.Nodes[:cap(x.Nodes)], before) {
			t.Fatalf("what was answered is what was handed in")
		}
		isAll(t, x, m)
	}
}

// P2: what is answered hangs on what was handed in, not on what was asked ahead of it, and not on spare room.
func TestEveryCallAnswersTheSameAgain(t *testing.T) {
	type answer struct {
		put, less api.Trie
		errs      [5]api.Errno
		found     api.Net
		value     int
		list      []api.Net
		values    []int
	}
	var tries []api.Trie
	for _, m := range []nets{{}, {net(0, 0): 1}, {net(0, 3): 1, net(1<<31, 1): 2, net(0, 32): 5}, full()} {
		tries = append(tries, trieOf(m), withRoom(trieOf(m)))
	}
	tries = append(tries, trie(api.Node{}), trie(make([]api.Node, 501)...), chain(33, 1))
	others := []api.Net{net(0, 0), net(0, 3), net(1<<31, 1), net(5, 32), net(1, 0), net(0, 33), net(245<<24, 8)}
	ask := func(i int) (a answer) {
		x, n := tries[i%len(tries)], others[i%len(others)]
		a.errs[0] = prefix.Check(x)
		a.put, a.errs[1] = prefix.Put(x, n, i)
		a.less, a.errs[2] = prefix.Remove(x, n)
		a.found, a.value, a.errs[3] = prefix.Find(x, n.Addr)
		a.list, a.values, a.errs[4] = prefix.All(x)
		return a
	}
	alike := func(a, b answer) bool {
		return same(a.put, b.put) && same(a.less, b.less) && a.errs == b.errs && a.found == b.found && a.value == b.value &&
			slices.Equal(a.list, b.list) && slices.Equal(a.values, b.values)
	}
	first := make([]answer, 2*len(tries)*len(others))
	for i := range first {
		first[i] = ask(i)
	}
	for i := len(first) - 1; i >= 0; i-- {
		if again := ask(i); !alike(again, first[i]) {
			t.Errorf("call %d told %+v, and %+v when it is asked again", i, first[i], again)
		}
	}
}
