package rules_test

import (
	"math"
	"slices"
	"testing"

	"customshouse/api"
	"customshouse/rules"
)

func net(addr uint32, long int) api.Net { return api.Net{Addr: addr, Long: long} }

// anything meets each flow.
func anything(pass bool) api.Rule { return api.Rule{FromHigh: 65535, ToHigh: 65535, Pass: pass} }

// with is a rule that meets anything, once it is changed.
func with(change func(r *api.Rule)) api.Rule {
	r := anything(false)
	change(&r)
	return r
}

// just meets the flow f, and, if its Proto is 0, those that have another Proto.
func just(f api.Flow) api.Rule {
	return api.Rule{
		From: net(f.From, 32), To: net(f.To, 32), Proto: f.Proto,
		FromLow: f.FromPort, FromHigh: f.FromPort, ToLow: f.ToPort, ToHigh: f.ToPort,
	}
}

func random(n *uint64) uint64 {
	*n = *n*6364136223846793005 + 1442695040888963407
	x := *n
	x = (x ^ x>>33) * 0xff51afd7ed558ccd
	return x ^ x>>33
}

// far are numbers that are out of all bounds; some of them would be in them, if their high bits were lost.
func far() []int {
	return []int{
		-1, -2, -6, -31, -32, -33, -80, -255, -256, -1<<8 + 6, -65535, -65536, -1<<16 + 80, 65536, 1<<16 + 1, 1<<16 + 80,
		1<<16 + 255, 1 << 20, 1<<31 + 80, math.MaxInt32, math.MinInt32, 1 << 32, 1<<32 + 6, 1<<32 + 80, -1 << 32, -1<<32 + 6,
		-1<<32 + 80, math.MaxInt, math.MaxInt - 31, math.MinInt, math.MinInt + 1, math.MinInt + 6, math.MinInt + 80,
	}
}

// size is how many addresses have the same first long bits.
func size(long int) uint64 { return 1 << (32 - long) }

func isNet(n api.Net) bool {
	return n.Long >= 0 && n.Long <= 32 && uint64(n.Addr)%size(n.Long) == 0
}

func has(n api.Net, a uint32) bool {
	return uint64(a)/size(n.Long) == uint64(n.Addr)/size(n.Long)
}

func isIn(n, low, high int) bool { return n >= low && n <= high }

func isRule(r api.Rule) bool {
	for _, port := range []int{r.FromLow, r.FromHigh, r.ToLow, r.ToHigh} {
		if !isIn(port, 0, 65535) {
			return false
		}
	}
	return isNet(r.From) && isNet(r.To) && isIn(r.Proto, 0, 255) && !(r.FromLow > r.FromHigh) && !(r.ToLow > r.ToHigh)
}

// checkOf is Check by the words of P14.1.
func checkOf(l []api.Rule) api.Errno {
	if len(l) > 64 {
		return api.ErrLarge
	}
	for _, r := range l {
		if !isRule(r) {
			return api.ErrForm
		}
	}
	return api.OK
}

// meetsOf tells whether r meets f, by the words ahead of P14.1.
func meetsOf(r api.Rule, f api.Flow) bool {
	return has(r.From, f.From) && has(r.To, f.To) && (r.Proto == 0 || r.Proto == f.Proto) &&
		isIn(f.FromPort, r.FromLow, r.FromHigh) && isIn(f.ToPort, r.ToLow, r.ToHigh)
}

// decideOf is Decide by the words of P14.2.
func decideOf(l []api.Rule, f api.Flow, otherwise bool) (bool, int, api.Errno) {
	if e := checkOf(l); e != api.OK {
		return false, 0, e
	}
	if !isIn(f.Proto, 0, 255) || !isIn(f.FromPort, 0, 65535) || !isIn(f.ToPort, 0, 65535) {
		return false, 0, api.ErrArg
	}
	for i, r := range l {
		if meetsOf(r, f) {
			return r.Pass, i, api.OK
		}
	}
	return otherwise, -1, api.OK
}

// ends are the first and the last address of n.
func ends(n api.Net) []uint32 {
	return []uint32{n.Addr, uint32(uint64(n.Addr) + size(n.Long) - 1)}
}

// flowsOf are flows that r meets: those with the first and the last of what it has, and each Proto. If another rule, whose
// parts have no gaps, meets all of these, it meets all that r does.
func flowsOf(r api.Rule) []api.Flow {
	protos := []int{r.Proto}
	for n := 1; n < 256 && r.Proto == 0; n++ {
		protos = append(protos, n)
	}
	var out []api.Flow
	for _, from := range ends(r.From) {
		for _, to := range ends(r.To) {
			for _, fromPort := range []int{r.FromLow, r.FromHigh} {
				for _, toPort := range []int{r.ToLow, r.ToHigh} {
					for _, proto := range protos {
						out = append(out, api.Flow{From: from, To: to, Proto: proto, FromPort: fromPort, ToPort: toPort})
					}
				}
			}
		}
	}
	return out
}

// coversOf is Covers of two that are rules, by the words of P14.3.
func coversOf(a, b api.Rule) bool {
	return !slices.ContainsFunc(flowsOf(b), func(f api.Flow) bool { return !meetsOf(a, f) })
}

// slimOf is Slim of a list that is right, by the words of P14.3.
func slimOf(l []api.Rule) []api.Rule {
	var out []api.Rule
	for i, r := range l {
		covered := false
		for _, ahead := range l[:i] {
			covered = covered || coversOf(ahead, r)
		}
		if !covered {
			out = append(out, r)
		}
	}
	return out
}

func checks(t *testing.T, l []api.Rule, want api.Errno) {
	t.Helper()
	if e := rules.Check(l); e != want {
		t.Fatalf("Check(%v) = %d, want %d", l, e, want)
	}
}

// isWrong asks for the error of all that are given a list.
func isWrong(t *testing.T, l []api.Rule, want api.Errno) {
	t.Helper()
	checks(t, l, want)
	for _, f := range []api.Flow{{}, {Proto: -1}, {Proto: 256}, {FromPort: -1}, {ToPort: 65536}, {Proto: 6, ToPort: 80}} {
		for _, otherwise := range []bool{false, true} {
			if pass, i, e := rules.Decide(l, f, otherwise); pass || i != 0 || e != want {
				t.Fatalf("Decide(%v, %v, %t) = %t, %d, error %d; want error %d", l, f, otherwise, pass, i, e, want)
			}
		}
	}
	if m, e := rules.Slim(l); m != nil || e != want {
		t.Fatalf("Slim(%v) = %v, error %d; want error %d", l, m, e, want)
	}
}

// isWrongRule asks for ErrForm wherever r is, and whatever is beside it.
func isWrongRule(t *testing.T, r api.Rule) {
	t.Helper()
	all := anything(true)
	for _, l := range [][]api.Rule{{r}, {r, all}, {all, r}, {all, all, r, all}, {r, r}, fill(63, r)} {
		isWrong(t, l, api.ErrForm)
	}
	isWrong(t, fill(64, r), api.ErrLarge)
	noCovers(t, r, all)
	noCovers(t, all, r)
	noCovers(t, r, r)
}

// fill is many rules and r behind them.
func fill(many int, r api.Rule) []api.Rule {
	var l []api.Rule
	for i := range many {
		l = append(l, with(func(r *api.Rule) { r.ToLow, r.ToHigh, r.Pass = i, i, i%2 == 0 }))
	}
	return append(l, r)
}

func decides(t *testing.T, l []api.Rule, f api.Flow, otherwise, pass bool, i int) {
	t.Helper()
	if p, j, e := rules.Decide(l, f, otherwise); p != pass || j != i || e != api.OK {
		t.Fatalf("Decide(%v, %v, %t) = %t, %d, error %d; want %t, %d", l, f, otherwise, p, j, e, pass, i)
	}
}

// meets tells whether the rule alone meets f, by what is decided whatever it lets pass and whatever passes otherwise.
func meets(t *testing.T, r api.Rule, f api.Flow, want bool) {
	t.Helper()
	for _, r.Pass = range []bool{false, true} {
		for _, otherwise := range []bool{false, true} {
			if want {
				decides(t, []api.Rule{r}, f, otherwise, r.Pass, 0)
			} else {
				decides(t, []api.Rule{r}, f, otherwise, otherwise, -1)
			}
		}
	}
}

// covers asks for it whatever the two let pass.
func covers(t *testing.T, a, b api.Rule, want bool) {
	t.Helper()
	for _, a.Pass = range []bool{false, true} {
		for _, b.Pass = range []bool{false, true} {
			if c, e := rules.Covers(a, b); c != want || e != api.OK {
				t.Fatalf("Covers(%v, %v) = %t, error %d; want %t", a, b, c, e, want)
			}
			if want {
				slims(t, []api.Rule{a, b}, []api.Rule{a})
			} else {
				slims(t, []api.Rule{a, b}, []api.Rule{a, b})
			}
		}
	}
}

func noCovers(t *testing.T, a, b api.Rule) {
	t.Helper()
	if c, e := rules.Covers(a, b); c || e != api.ErrForm {
		t.Fatalf("Covers(%v, %v) = %t, error %d; want error %d", a, b, c, e, api.ErrForm)
	}
}

func slims(t *testing.T, l, want []api.Rule) {
	t.Helper()
	if m, e := rules.Slim(l); !slices.Equal(m, want) || e != api.OK {
		t.Fatalf("Slim(%v) = %v, error %d; want %v", l, m, e, want)
	}
}

// P14.1, P14.2 and P14.3: with no rule.
func TestNoRule(t *testing.T) {
	for _, l := range [][]api.Rule{nil, {}, make([]api.Rule, 0, 3)} {
		checks(t, l, api.OK)
		slims(t, l, nil)
		for _, otherwise := range []bool{false, true} {
			decides(t, l, api.Flow{}, otherwise, otherwise, -1)
			decides(t, l, api.Flow{From: 1, To: 2, Proto: 255, FromPort: 65535, ToPort: 65535}, otherwise, otherwise, -1)
		}
	}
}

// P14.1: 64 rules are not too many; that there are more is told ahead of all else.
func TestCheckOfManyRules(t *testing.T) {
	wrong := with(func(r *api.Rule) { r.Proto = -1 })
	for many := range 64 {
		checks(t, fill(many, anything(true)), api.OK)
	}
	for _, many := range []int{64, 65, 100, 127, 128, 255, 256, 257, 1 << 16, 1<<16 + 1} {
		isWrong(t, fill(many, anything(true)), api.ErrLarge)
		isWrong(t, fill(many, wrong), api.ErrLarge)
		isWrong(t, make([]api.Rule, many+1), api.ErrLarge)
	}
	all := make([]api.Rule, 64)
	checks(t, all, api.OK)
	slims(t, all, all[:1])
	decides(t, all, api.Flow{Proto: 7}, true, false, 0)
}

// P14.1: what is no net.
func TestCheckOfNets(t *testing.T) {
	var wrong []api.Net
	for _, long := range append(far(), 33, 34, 63, 64, 65, 96, 288) {
		wrong = append(wrong, net(0, long), net(1<<31, long), net(math.MaxUint32, long))
	}
	for long := range 32 {
		wrong = append(wrong, net(1, long), net(math.MaxUint32, long), net(uint32(size(long)/2), long), net(1<<31|1, long))
	}
	for _, n := range wrong {
		isWrongRule(t, with(func(r *api.Rule) { r.From = n }))
		isWrongRule(t, with(func(r *api.Rule) { r.To = n }))
	}
	for long := 0; long <= 32; long++ {
		for _, n := range []api.Net{net(0, long), net(uint32(math.MaxUint32/size(long)*size(long)), long)} {
			checks(t, []api.Rule{with(func(r *api.Rule) { r.From = n }), with(func(r *api.Rule) { r.To = n })}, api.OK)
		}
	}
}

// P14.1: a Proto from 0 to 255.
func TestCheckOfProtos(t *testing.T) {
	for n := -300; n < 600; n++ {
		r := with(func(r *api.Rule) { r.Proto = n })
		if n >= 0 && n <= 255 {
			checks(t, []api.Rule{anything(true), r}, api.OK)
		} else {
			isWrongRule(t, r)
		}
	}
	for _, n := range far() {
		isWrongRule(t, with(func(r *api.Rule) { r.Proto = n }))
	}
}

// P14.1: bounds from 0 to 65535, and the low one not above the high one.
func TestCheckOfBounds(t *testing.T) {
	numbers := append(far(), 0, 1, 2, 79, 80, 81, 255, 256, 1024, 32767, 32768, 65533, 65534, 65535)
	for _, low := range numbers {
		for _, high := range numbers {
			from := with(func(r *api.Rule) { r.FromLow, r.FromHigh = low, high })
			to := with(func(r *api.Rule) { r.ToLow, r.ToHigh = low, high })
			if low >= 0 && low <= high && high <= 65535 {
				checks(t, []api.Rule{from, to}, api.OK)
				continue
			}
			isWrongRule(t, from)
			isWrongRule(t, to)
		}
	}
}

// P14.1: a rule that is nothing but zeros is right; so is one with the most of everything.
func TestCheckOfEdges(t *testing.T) {
	most := api.Rule{From: net(math.MaxUint32, 32), To: net(math.MaxUint32, 32), Proto: 255,
		FromLow: 65535, FromHigh: 65535, ToLow: 65535, ToHigh: 65535, Pass: true}
	checks(t, []api.Rule{{}, most}, api.OK)
	meets(t, api.Rule{}, api.Flow{From: 5, To: math.MaxUint32, Proto: 9}, true)
	meets(t, api.Rule{}, api.Flow{FromPort: 1}, false)
	meets(t, api.Rule{}, api.Flow{ToPort: 1}, false)
	f := api.Flow{From: math.MaxUint32, To: math.MaxUint32, Proto: 255, FromPort: 65535, ToPort: 65535}
	meets(t, most, f, true)
	covers(t, anything(false), most, true)
	covers(t, most, most, true)
	covers(t, most, anything(false), false)
}

// P14.2: a flow that may not be, with any rules, and with none.
func TestDecideOfWrongFlows(t *testing.T) {
	right := api.Flow{From: 3, To: 4, Proto: 6, FromPort: 5000, ToPort: 80}
	for _, l := range [][]api.Rule{nil, {anything(true)}, {anything(false)}, {just(right), anything(true)}, fill(63, anything(true))} {
		for _, n := range append(far(), 256, 257, 262, 300, 65535) {
			f := right
			f.Proto = n
			noDecide(t, l, f)
		}
		for _, n := range far() {
			f := right
			f.FromPort = n
			noDecide(t, l, f)
			f = right
			f.ToPort = n
			noDecide(t, l, f)
			noDecide(t, l, api.Flow{Proto: n, FromPort: n, ToPort: n})
		}
	}
}

func noDecide(t *testing.T, l []api.Rule, f api.Flow) {
	t.Helper()
	for _, otherwise := range []bool{false, true} {
		if pass, i, e := rules.Decide(l, f, otherwise); pass || i != 0 || e != api.ErrArg {
			t.Fatalf("Decide(%v, %v, %t) = %t, %d, error %d", l, f, otherwise, pass, i, e)
		}
	}
}

// P14.2: a Proto of 0 stands for any in a rule, but not in a flow.
func TestDecideByProto(t *testing.T) {
	for proto := range 256 {
		for other := range 256 {
			r := with(func(r *api.Rule) { r.Proto = proto })
			meets(t, r, api.Flow{Proto: other}, proto == 0 || proto == other)
		}
	}
}

// P14.2: both bounds are with what is between them.
func TestDecideByPorts(t *testing.T) {
	numbers := []int{0, 1, 2, 79, 80, 81, 255, 256, 257, 1023, 1024, 32768, 65534, 65535}
	for _, low := range numbers {
		for _, high := range numbers {
			for _, port := range numbers {
				if low > high {
					continue
				}
				in := low <= port && port <= high
				from := with(func(r *api.Rule) { r.FromLow, r.FromHigh = low, high })
				to := with(func(r *api.Rule) { r.ToLow, r.ToHigh = low, high })
				meets(t, from, api.Flow{FromPort: port, ToPort: 7}, in)
				meets(t, to, api.Flow{FromPort: 7, ToPort: port}, in)
			}
		}
	}
	// Each of the two ports is held against its own bounds.
	r := with(func(r *api.Rule) { r.FromLow, r.FromHigh, r.ToLow, r.ToHigh = 1000, 2000, 80, 81 })
	meets(t, r, api.Flow{FromPort: 1500, ToPort: 80}, true)
	meets(t, r, api.Flow{FromPort: 80, ToPort: 1500}, false)
	meets(t, r, api.Flow{FromPort: 1500, ToPort: 1500}, false)
	meets(t, r, api.Flow{FromPort: 80, ToPort: 80}, false)
}

// P14.2: of each Long the first and the last address of a net, and those beside them.
func TestDecideByNets(t *testing.T) {
	for long := 0; long <= 32; long++ {
		for _, a := range []uint32{0, 0x0a010203, 0x7fffffff, 1 << 31, 0xc0a80001, math.MaxUint32} {
			n := net(uint32(uint64(a)/size(long)*size(long)), long)
			last := ends(n)[1]
			for _, other := range []uint32{n.Addr, n.Addr - 1, last, last + 1, a, a ^ 1<<31, a ^ 1, 0, math.MaxUint32} {
				r := with(func(r *api.Rule) { r.From = n })
				meets(t, r, api.Flow{From: other, To: ^a}, has(n, other))
				r = with(func(r *api.Rule) { r.To = n })
				meets(t, r, api.Flow{From: ^a, To: other}, has(n, other))
			}
		}
	}
	r := with(func(r *api.Rule) { r.From, r.To = net(0x0a000000, 8), net(0xc0a80000, 16) })
	meets(t, r, api.Flow{From: 0x0affffff, To: 0xc0a8ffff}, true)
	meets(t, r, api.Flow{From: 0xc0a80001, To: 0x0a000001}, false)
	meets(t, r, api.Flow{From: 0x0a000001, To: 0x0a000001}, false)
	meets(t, r, api.Flow{From: 0xc0a80001, To: 0xc0a80001}, false)
}

// P14.2, and example 14 of the document: the first one that meets decides.
func TestDecideByTheFirst(t *testing.T) {
	web := api.Rule{To: net(0x0a000000, 24), Proto: 6, FromHigh: 65535, ToLow: 80, ToHigh: 81, Pass: true}
	one := with(func(r *api.Rule) { r.From = net(0x05060708, 32) })
	l := []api.Rule{one, web, anything(false), web, anything(true)}
	decides(t, l, api.Flow{From: 9, To: 0x0a000005, Proto: 6, ToPort: 80}, false, true, 1)
	decides(t, l, api.Flow{From: 0x05060708, To: 0x0a000005, Proto: 6, ToPort: 80}, true, false, 0)
	decides(t, l, api.Flow{From: 9, To: 0x0a000005, Proto: 17, ToPort: 80}, true, false, 2)
	decides(t, l[3:], api.Flow{From: 9, To: 0x0a000105, Proto: 6, ToPort: 80}, false, true, 1)
	decides(t, l[:2], api.Flow{From: 9, To: 0x0a000005, Proto: 6, ToPort: 82}, true, true, -1)
	decides(t, l[:2], api.Flow{From: 9, To: 0x0a000005, Proto: 6, ToPort: 82}, false, false, -1)
	for i := range 64 {
		decides(t, fill(63, anything(true)), api.Flow{ToPort: i}, false, i%2 == 0 || i == 63, i)
	}
}

// P14.3: a rule covers what is within it, in each part.
func TestCovers(t *testing.T) {
	part := func(change func(r *api.Rule)) api.Rule {
		r := api.Rule{From: net(0x0a010000, 16), To: net(0xc0a80000, 24), Proto: 17, FromLow: 10, FromHigh: 20, ToLow: 30, ToHigh: 40}
		change(&r)
		return r
	}
	whole := part(func(r *api.Rule) {})
	for name, c := range map[string]struct {
		change func(r *api.Rule)
		in     bool
	}{
		"itself":              {func(r *api.Rule) {}, true},
		"a net in From":       {func(r *api.Rule) { r.From = net(0x0a01ff00, 24) }, true},
		"one address of From": {func(r *api.Rule) { r.From = net(0x0a01ffff, 32) }, true},
		"the first of From":   {func(r *api.Rule) { r.From = net(0x0a010000, 32) }, true},
		"a net around From":   {func(r *api.Rule) { r.From = net(0x0a000000, 15) }, false},
		"same Addr of From":   {func(r *api.Rule) { r.From = net(0x0a010000, 17) }, true},
		"the net beside From": {func(r *api.Rule) { r.From = net(0x0a000000, 16) }, false},
		"one beside From":     {func(r *api.Rule) { r.From = net(0x0a020000, 32) }, false},
		"all From":            {func(r *api.Rule) { r.From = net(0, 0) }, false},
		"a net in To":         {func(r *api.Rule) { r.To = net(0xc0a80080, 25) }, true},
		"one address of To":   {func(r *api.Rule) { r.To = net(0xc0a800ff, 32) }, true},
		"a net around To":     {func(r *api.Rule) { r.To = net(0xc0a80000, 23) }, false},
		"the net beside To":   {func(r *api.Rule) { r.To = net(0xc0a80100, 24) }, false},
		"one beside To":       {func(r *api.Rule) { r.To = net(0xc0a7ffff, 32) }, false},
		"all To":              {func(r *api.Rule) { r.To = net(0, 0) }, false},
		"any Proto":           {func(r *api.Rule) { r.Proto = 0 }, false},
		"another Proto":       {func(r *api.Rule) { r.Proto = 6 }, false},
		"the next Proto":      {func(r *api.Rule) { r.Proto = 18 }, false},
		"ports within From":   {func(r *api.Rule) { r.FromLow, r.FromHigh = 11, 19 }, true},
		"the first From port": {func(r *api.Rule) { r.FromHigh = 10 }, true},
		"the last From port":  {func(r *api.Rule) { r.FromLow = 20 }, true},
		"one From port below": {func(r *api.Rule) { r.FromLow = 9 }, false},
		"one From port above": {func(r *api.Rule) { r.FromHigh = 21 }, false},
		"From ports below":    {func(r *api.Rule) { r.FromLow, r.FromHigh = 0, 9 }, false},
		"From ports above":    {func(r *api.Rule) { r.FromLow, r.FromHigh = 21, 65535 }, false},
		"ports within To":     {func(r *api.Rule) { r.ToLow, r.ToHigh = 31, 39 }, true},
		"the first To port":   {func(r *api.Rule) { r.ToHigh = 30 }, true},
		"the last To port":    {func(r *api.Rule) { r.ToLow = 40 }, true},
		"one To port below":   {func(r *api.Rule) { r.ToLow = 29 }, false},
		"one To port above":   {func(r *api.Rule) { r.ToHigh = 41 }, false},
		"To ports below":      {func(r *api.Rule) { r.ToLow, r.ToHigh = 0, 29 }, false},
		"To ports above":      {func(r *api.Rule) { r.ToLow, r.ToHigh = 41, 65535 }, false},
		"To ports from there": {func(r *api.Rule) { r.ToLow, r.ToHigh = 35, 45 }, false},
		"all in all": {func(r *api.Rule) {
			r.From, r.To, r.FromLow, r.ToHigh = net(0x0a010001, 32), net(0xc0a80010, 28), 15, 35
		}, true},
	} {
		t.Run(name, func(t *testing.T) {
			covers(t, whole, part(c.change), c.in)
			covers(t, anything(true), part(c.change), true)
			covers(t, part(c.change), anything(true), false)
		})
	}
}

// P14.3: who meets any Proto covers each, and is covered by no one Proto, not by 255 of them.
func TestCoversByProto(t *testing.T) {
	for a := range 256 {
		for b := range 256 {
			covers(t, with(func(r *api.Rule) { r.Proto = a }), with(func(r *api.Rule) { r.Proto = b }), a == 0 || a == b)
		}
	}
}

// P14.3: nets of each Long in and beside each other.
func TestCoversByNets(t *testing.T) {
	start := func(a uint32, long int) api.Net { return net(uint32(uint64(a)/size(long)*size(long)), long) }
	for a := 0; a <= 32; a++ {
		for b := 0; b <= 32; b++ {
			for _, flip := range []uint32{0, 1, 1 << 16, 1 << 31} {
				outer, inner := start(0xa5a5a5a5, a), start(0xa5a5a5a5^flip, b)
				want := a <= b && has(outer, inner.Addr)
				covers(t, with(func(r *api.Rule) { r.From = outer }), with(func(r *api.Rule) { r.From = inner }), want)
				covers(t, with(func(r *api.Rule) { r.To = outer }), with(func(r *api.Rule) { r.To = inner }), want)
			}
		}
	}
}

// P14.3: just what one rule ahead covers is left out; several together don't cover, and what is behind doesn't.
func TestSlim(t *testing.T) {
	ports := func(low, high int, pass bool) api.Rule {
		return with(func(r *api.Rule) { r.ToLow, r.ToHigh, r.Pass = low, high, pass })
	}
	a, b, both, in := ports(1, 5, true), ports(6, 9, false), ports(1, 9, true), ports(2, 3, false)
	slims(t, []api.Rule{a}, []api.Rule{a})
	slims(t, []api.Rule{a, a, a}, []api.Rule{a})
	slims(t, []api.Rule{a, b, both}, []api.Rule{a, b, both})
	slims(t, []api.Rule{both, a, b}, []api.Rule{both})
	slims(t, []api.Rule{in, a}, []api.Rule{in, a})
	slims(t, []api.Rule{a, in}, []api.Rule{a})
	slims(t, []api.Rule{b, a, in, b, both, in}, []api.Rule{b, a, both})
	slims(t, []api.Rule{in, a, both, anything(false), in, a}, []api.Rule{in, a, both, anything(false)})
	// What is left out is left out whatever it lets pass, and also if what covers it doesn't stand right ahead of it.
	slims(t, []api.Rule{anything(true), anything(false)}, []api.Rule{anything(true)})
	l := fill(63, ports(0, 0, false))
	slims(t, l, l[:63])
	l = fill(63, ports(0, 63, false))
	slims(t, l, l)
}

// someRule is one of a small world, in which rules often cover each other; some are out of all bounds, if wrong says so.
func someRule(n *uint64, wrong bool) api.Rule {
	pick := func(list ...int) int { return list[random(n)%uint64(len(list))] }
	part := func() api.Net {
		long := pick(0, 1, 2, 8, 31, 32)
		return net(uint32(uint64(pick(0, 1, 0x40000000, 0x80000000, 0xffffffff))/size(long)*size(long)), long)
	}
	bounds := func() (int, int) {
		low, high := pick(0, 0, 1, 80, 65535), pick(0, 1, 80, 65535, 65535)
		return min(low, high), max(low, high)
	}
	r := api.Rule{From: part(), To: part(), Proto: pick(0, 0, 1, 6, 255), Pass: pick(0, 1) == 1}
	r.FromLow, r.FromHigh = bounds()
	r.ToLow, r.ToHigh = bounds()
	if wrong {
		odd := pick(far()...)
		*[]*int{&r.From.Long, &r.To.Long, &r.Proto, &r.FromLow, &r.FromHigh, &r.ToLow, &r.ToHigh}[pick(0, 1, 2, 3, 4, 5, 6)] = odd
	}
	return r
}

func someFlow(n *uint64) api.Flow {
	pick := func(list ...int) int { return list[random(n)%uint64(len(list))] }
	f := api.Flow{From: uint32(random(n)), To: uint32(random(n)), Proto: pick(0, 1, 6, 7, 255, 256, -1)}
	if pick(0, 1) == 1 {
		f.From, f.To = uint32(pick(0, 1, 0x40000000, 0xffffffff)), uint32(pick(0, 1, 0x80000000, 0xfffffffe))
	}
	f.FromPort, f.ToPort = pick(0, 1, 2, 80, 65535), pick(0, 1, 2, 80, 65535)
	if pick(0, 1, 2, 3, 4, 5, 6, 7) == 7 {
		f.FromPort = pick(far()...)
	}
	return f
}

// P1, P14.1, P14.2 and P14.3: any rules and any flows.
func TestAnyRules(t *testing.T) {
	for seed := uint64(1); seed <= 400; seed++ {
		n := seed
		var l []api.Rule
		for range random(&n) % 12 {
			l = append(l, someRule(&n, random(&n)%60 == 0))
		}
		want := checkOf(l)
		checks(t, l, want)
		for range 40 {
			f, otherwise := someFlow(&n), random(&n)%2 == 0
			pass, i, e := rules.Decide(l, f, otherwise)
			if p, j, wrong := decideOf(l, f, otherwise); pass != p || i != j || e != wrong {
				t.Fatalf("Decide(%v, %v, %t) = %t, %d, error %d; want %t, %d, error %d", l, f, otherwise, pass, i, e, p, j, wrong)
			}
		}
		if want != api.OK {
			isWrong(t, l, want)
			continue
		}
		slims(t, l, slimOf(l))
		isSlim(t, l, &n)
	}
}

// isSlim asks that whatever passes by l passes by Slim of it too, and nothing else.
func isSlim(t *testing.T, l []api.Rule, n *uint64) {
	t.Helper()
	slim, _ := rules.Slim(l)
	slims(t, slim, slim)
	for range 40 {
		f := someFlow(n)
		pass, i, e := rules.Decide(l, f, true)
		p, j, wrong := rules.Decide(slim, f, true)
		if pass != p || e != wrong || i >= 0 != (j >= 0) || i >= 0 && e == api.OK && slim[j] != l[i] {
			t.Fatalf("%v passes %v: %t by %d; when it is slim, %t by %d", l, f, pass, i, p, j)
		}
	}
}

// P14.3: any two, and the error of each of them.
func TestAnyTwo(t *testing.T) {
	n := uint64(77)
	for range 8000 {
		a, b := someRule(&n, random(&n)%12 == 0), someRule(&n, random(&n)%12 == 0)
		if random(&n)%3 == 0 {
			a.From, a.To = b.From, net(0, 0)
		}
		if checkOf([]api.Rule{a, b}) != api.OK {
			noCovers(t, a, b)
		} else if c, e := rules.Covers(a, b); c != coversOf(a, b) || e != api.OK {
			t.Fatalf("Covers(%v, %v) = %t, error %d", a, b, c, e)
		}
	}
}

// P14.2 and P14.3: a rule meets a flow if, and only if, it covers one that meets just this.
func TestCoversOfOneFlow(t *testing.T) {
	n := uint64(5)
	for range 20000 {
		r, f := someRule(&n, false), someFlow(&n)
		if checkOf([]api.Rule{just(f)}) != api.OK {
			continue
		}
		_, i, _ := rules.Decide([]api.Rule{r}, f, false)
		if c, e := rules.Covers(r, just(f)); c != (i == 0) || e != api.OK {
			t.Fatalf("%v: Decide of %v tells %d, but Covers %t, error %d", r, f, i, c, e)
		}
	}
}

// withRoom has spare room behind its rules, in which there are others.
func withRoom(l []api.Rule) []api.Rule {
	list := append(make([]api.Rule, 0, len(l)+40), l...)
	room := list[len(list):cap(list)]
	for i := range room {
		room[i] = api.Rule{Proto: -i, Pass: true}
	}
	return list
}

func lists() [][]api.Rule {
	n := uint64(3)
	var some []api.Rule
	for range 20 {
		some = append(some, someRule(&n, false))
	}
	return [][]api.Rule{nil, {anything(true)}, {anything(true), anything(false)}, some, fill(63, anything(true)),
		fill(64, anything(true)), {{Proto: -1}}, {anything(false), {FromLow: 1}}}
}

// P2.
func TestNothingIsChanged(t *testing.T) {
	for _, l := range lists() {
		x := withRoom(l)
		before := slices.Clone(x[:cap(x)])
		rules.Check(x)
		rules.Slim(x)
		n := uint64(8)
		for range 50 {
			rules.Decide(x, someFlow(&n), true)
		}
		if !slices.Equal(x[:cap(x)], before) {
			t.Fatalf("%v was changed", l)
		}
	}
}

// P2: what is answered is new, its spare room too.
func TestAnswersAreNew(t *testing.T) {
	for _, l := range lists() {
		x := withRoom(l)
		before := slices.Clone(x[:cap(x)])
		m, e := rules.Slim(x)
		other, _ := rules.Slim(x)
		want := slices.Clone(other)
		for i := range m[:cap(m)] {
			m[:cap(m)][i] = api.Rule{Proto: 99}
		}
		if !slices.Equal(x[:cap(x)], before) {
			t.Fatalf("what was answered is what was handed in")
		}
		if !slices.Equal(other, want) {
			t.Fatalf("two answers share memory")
		}
		if e == api.OK {
			slims(t, x, want)
		}
	}
}

// P2: what is answered hangs on what was handed in, not on what was asked ahead of it, and not on spare room.
func TestEveryCallAnswersTheSameAgain(t *testing.T) {
	type answer struct {
		errs         [4]api.Errno
		pass, covers bool
		first        int
	}
	ask := func(i int) (a answer, slim []api.Rule) {
		n := uint64(i % 100)
		l, f := lists()[i%len(lists())], someFlow(&n)
		if i >= 100 {
			l = withRoom(l)
		}
		a.errs[0] = rules.Check(l)
		a.pass, a.first, a.errs[1] = rules.Decide(l, f, i%2 == 0)
		a.covers, a.errs[2] = rules.Covers(someRule(&n, i%9 == 0), someRule(&n, false))
		slim, a.errs[3] = rules.Slim(l)
		return a, slim
	}
	for i := range 100 {
		first, slim := ask(i)
		ask(i * 7)
		if again, other := ask(i); again != first || !slices.Equal(slim, other) {
			t.Errorf("call %d told %v, %v, and %v, %v when it is asked again", i, first, slim, again, other)
		}
	}
}
