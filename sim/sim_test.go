package sim

import (
	"math"
	"reflect"
	"slices"
	"strings"
	"sync"
	"testing"

	"retorter/aig"
	"retorter/api"
)

// small tells a circuit that has something of each kind, its Ands not in turn, with variables that are none.
func small() api.Circuit {
	return api.Circuit{
		Max:         20,
		Inputs:      []int{14, 6},
		Latches:     []api.Latch{{Lit: 30, Next: 21, Reset: 30}, {Lit: 4, Next: 24, Reset: 1}, {Lit: 8, Next: 6}},
		Outputs:     []int{0, 23, 8},
		Bads:        []int{20, 31},
		Constraints: []int{1, 15, 25},
		Ands:        []api.And{{Lit: 20, A: 22, B: 25}, {Lit: 24, A: 6, B: 9}, {Lit: 22, A: 15, B: 30}, {Lit: 2, A: 1, B: 5}},
		Names:       []api.Symbol{{Kind: 'l', Index: 2, Name: "z"}, {Kind: 'i', Index: 1, Name: "a b"}},
	}
}

// smallValues tells what small's variables are, worked out by hand.
func smallValues(x, y, p, q, r bool) []bool {
	v := make([]bool, 21)
	v[7], v[3], v[15], v[2], v[4] = x, y, p, q, r
	v[1] = !q
	v[11] = !x && p
	v[12] = y && !r
	v[10] = v[11] && !v[12]
	return v
}

// smallRow tells what small's step tells, worked out by hand.
func smallRow(x, y, p, r bool) api.Row {
	waits := y && !r
	goes := !x && p
	return api.Row{
		Next:  []bool{!(goes && !waits), waits, y},
		Outs:  []bool{false, !goes, r},
		Bads:  []bool{goes && !waits, !p},
		Holds: !x && !waits,
	}
}

// bits tells the n low bits of a number.
func bits(number, n int) []bool {
	list := make([]bool, n)
	for i := range list {
		list[i] = number>>i&1 == 1
	}
	return list
}

// written tells the bools that 0 and 1 write.
func written(s string) []bool {
	var list []bool
	for _, c := range s {
		list = append(list, c == '1')
	}
	return list
}

// alike tells whether two rows are, nil and an empty list being one.
func alike(a, b api.Row) bool {
	return slices.Equal(a.Next, b.Next) && slices.Equal(a.Outs, b.Outs) && slices.Equal(a.Bads, b.Bads) && a.Holds == b.Holds
}

func checkValues(t *testing.T, c api.Circuit, state, inputs, want []bool) {
	t.Helper()
	if got, e := Values(c, state, inputs); e != api.OK || !slices.Equal(got, want) {
		t.Errorf("P801: Values(%.300v, %v, %v) = %v, %d; want %v", c, state, inputs, got, e, want)
	}
}

func checkStep(t *testing.T, c api.Circuit, state, inputs []bool, want api.Row) {
	t.Helper()
	if got, e := Step(c, state, inputs); e != api.OK || !alike(got, want) {
		t.Errorf("P801: Step(%.300v, %v, %v) = %v, %d; want %v", c, state, inputs, got, e, want)
	}
}

func checkFirst(t *testing.T, c api.Circuit, free, want []bool) {
	t.Helper()
	if got, e := First(c, free); e != api.OK || !slices.Equal(got, want) {
		t.Errorf("P801: First(%.300v, %v) = %v, %d; want %v", c, free, got, e, want)
	}
}

// checkRefused asks for Values and Step, which both are to tell that error, and nothing beside it.
func checkRefused(t *testing.T, name string, c api.Circuit, state, inputs []bool, want api.Errno) {
	t.Helper()
	if v, e := Values(c, state, inputs); e != want || len(v) > 0 {
		t.Errorf("P801: Values: %s: %v, %d; want %d", name, v, e, want)
	}
	if r, e := Step(c, state, inputs); e != want || !alike(r, api.Row{}) {
		t.Errorf("P801: Step: %s: %v, %d; want %d", name, r, e, want)
	}
}

func TestP801OfNothing(t *testing.T) {
	checkValues(t, api.Circuit{}, nil, nil, []bool{false})
	checkValues(t, api.Circuit{}, []bool{}, []bool{}, []bool{false})
	checkValues(t, api.Circuit{Max: 3}, nil, nil, make([]bool, 4))
	checkValues(t, api.Circuit{Max: api.MaxVar}, nil, nil, make([]bool, api.MaxVar+1))
	checkStep(t, api.Circuit{}, nil, nil, api.Row{Holds: true})
	checkStep(t, api.Circuit{Max: api.MaxVar}, nil, nil, api.Row{Holds: true})
	checkFirst(t, api.Circuit{}, nil, nil)
	checkFirst(t, api.Circuit{}, []bool{true, true}, nil)
}

func TestP801Small(t *testing.T) {
	for i := range 1 << 5 {
		b := bits(i, 5)
		x, y, p, q, r := b[0], b[1], b[2], b[3], b[4]
		checkValues(t, small(), []bool{p, q, r}, []bool{x, y}, smallValues(x, y, p, q, r))
		checkStep(t, small(), []bool{p, q, r}, []bool{x, y}, smallRow(x, y, p, r))
	}
}

func TestP801And(t *testing.T) {
	for turned := range 4 {
		a, b := 2+turned&1, 4+turned>>1
		c := api.Circuit{Max: 3, Inputs: []int{2, 4}, Outputs: []int{6, 7}, Ands: []api.And{{Lit: 6, A: a, B: b}}}
		for i := range 4 {
			in := bits(i, 2)
			both := in[0] != (turned&1 == 1) && in[1] != (turned>>1 == 1)
			checkValues(t, c, nil, in, []bool{false, in[0], in[1], both})
			checkStep(t, c, nil, in, api.Row{Outs: []bool{both, !both}, Bads: []bool{both, !both}, Holds: true})
		}
	}
	for _, x := range []struct {
		a, b           int
		isTrue, isNone bool // what it is of an input that is true, and of one that is not
	}{{0, 0, false, false}, {0, 1, false, false}, {1, 0, false, false}, {1, 1, true, true}, {2, 2, true, false}, {3, 3, false, true}, {2, 3, false, false}, {3, 2, false, false}, {1, 2, true, false}, {2, 0, false, false}, {3, 1, false, true}} {
		c := api.Circuit{Max: 2, Inputs: []int{2}, Ands: []api.And{{Lit: 4, A: x.a, B: x.b}}}
		checkValues(t, c, nil, []bool{true}, []bool{false, true, x.isTrue})
		checkValues(t, c, nil, []bool{false}, []bool{false, false, x.isNone})
	}
}

func TestP801Constants(t *testing.T) {
	c := api.Circuit{Max: 2, Latches: []api.Latch{{Lit: 4, Next: 1}, {Lit: 2, Next: 0}}, Outputs: []int{0, 1}, Bads: []int{1, 0, 1}}
	for i := range 4 {
		checkStep(t, c, bits(i, 2), nil, api.Row{Next: []bool{true, false}, Outs: []bool{false, true}, Bads: []bool{true, false, true}, Holds: true})
	}
}

func TestP801Next(t *testing.T) {
	// Each becomes what the one behind it is, all at once; the last one the first one's opposite.
	c := api.Circuit{Max: 3, Latches: []api.Latch{{Lit: 6, Next: 2}, {Lit: 2, Next: 4}, {Lit: 4, Next: 7}}}
	for i := range 8 {
		s := bits(i, 3)
		checkStep(t, c, s, nil, api.Row{Next: []bool{s[1], s[2], !s[0]}, Holds: true})
	}
}

func TestP801Holds(t *testing.T) {
	for _, x := range []struct {
		constraints []int
		in          string
		want        bool
	}{
		{nil, "00", true},
		{[]int{1}, "00", true},
		{[]int{0}, "11", false},
		{[]int{1, 1, 0}, "11", false},
		{[]int{0, 1, 1}, "11", false},
		{[]int{2, 4}, "11", true},
		{[]int{2, 4}, "10", false},
		{[]int{2, 4}, "01", false},
		{[]int{2, 5}, "10", true},
		{[]int{3, 5}, "00", true},
		{[]int{2, 3}, "00", false},
	} {
		c := api.Circuit{Max: 2, Inputs: []int{2, 4}, Constraints: x.constraints}
		checkStep(t, c, nil, written(x.in), api.Row{Holds: x.want})
		// What the bads are is told whether the constraints hold or not.
		c.Bads = []int{1, 2}
		checkStep(t, c, nil, written(x.in), api.Row{Bads: []bool{true, x.in[0] == '1'}, Holds: x.want})
	}
}

func TestP801BadsOrOutputs(t *testing.T) {
	c := api.Circuit{Max: 1, Inputs: []int{2}, Outputs: []int{2, 3}}
	checkStep(t, c, nil, []bool{true}, api.Row{Outs: []bool{true, false}, Bads: []bool{true, false}, Holds: true})
	c.Bads = []int{3}
	checkStep(t, c, nil, []bool{true}, api.Row{Outs: []bool{true, false}, Bads: []bool{false}, Holds: true})
	c.Outputs = nil
	checkStep(t, c, nil, []bool{true}, api.Row{Bads: []bool{false}, Holds: true})
}

// chain tells a circuit with as many Inputs, Latches and Ands as may be: each And hangs on the one ahead of it, and on an Input, which may be turned over.
func chain() api.Circuit {
	c := api.Circuit{Max: api.MaxVar}
	for i := range api.MaxPorts {
		lit := 2*api.MaxVar - 2*i
		c.Inputs = append(c.Inputs, 2+2*i)
		c.Latches = append(c.Latches, api.Latch{Lit: lit, Next: lit + 1, Reset: []int{0, 1, lit}[i%3]})
		c.Outputs = append(c.Outputs, 2+2*i)
		c.Bads = append(c.Bads, lit)
		c.Constraints = append(c.Constraints, 3+2*i)
	}
	for i := range api.MaxAnds {
		c.Ands = append(c.Ands, api.And{Lit: 200 + 2*i, A: 198 + 2*i, B: 2 + 2*(i%api.MaxPorts)})
	}
	c.Ands[0].A = 1
	c.Bads[0] = c.Ands[api.MaxAnds-1].Lit
	return c
}

func TestP801Chain(t *testing.T) {
	c := chain()
	state, all := make([]bool, api.MaxPorts), slices.Repeat([]bool{true}, api.MaxPorts)
	want := make([]bool, api.MaxVar+1)
	for i := range api.MaxPorts {
		want[1+i] = true
	}
	for i := range api.MaxAnds {
		want[100+i] = true
	}
	bads := make([]bool, api.MaxPorts)
	bads[0] = true
	for range 2 {
		checkValues(t, c, state, all, want)
		checkStep(t, c, state, all, api.Row{Next: all, Outs: all, Bads: bads})
		slices.Reverse(c.Ands)
	}
	// With the second input false the chain is true up to there.
	in := slices.Clone(all)
	in[1], want[2] = false, false
	clear(want[101 : 100+api.MaxAnds])
	checkValues(t, c, state, in, want)
	slices.Reverse(c.Ands)
	checkValues(t, c, state, in, want)
}

// lot is a row of numbers by a plain rule, the same ones each time.
type lot uint64

func (l *lot) next(n int) int {
	*l = *l*6364136223846793005 + 1442695040888963407
	return int(uint64(*l) >> 33 % uint64(n))
}

// circuit tells a right circuit whose variables have gaps between them, and whose Ands are not in turn.
func (l *lot) circuit() api.Circuit {
	var c api.Circuit
	lits := []int{0}
	side := func() int { return lits[l.next(len(lits))] + l.next(2) }
	fresh := func() int {
		c.Max += 1 + l.next(3)
		lits = append(lits, 2*c.Max)
		return 2 * c.Max
	}
	for range l.next(4) {
		lit := fresh()
		c.Latches = append(c.Latches, api.Latch{Lit: lit, Next: side(), Reset: []int{0, 1, lit}[l.next(3)]})
	}
	for range l.next(4) {
		c.Inputs = append(c.Inputs, fresh())
	}
	for range l.next(30) {
		a, b := side(), side()
		c.Ands = append(c.Ands, api.And{Lit: fresh(), A: a, B: b})
	}
	for i := len(c.Ands) - 1; i > 0; i-- {
		j := l.next(i + 1)
		c.Ands[i], c.Ands[j] = c.Ands[j], c.Ands[i]
	}
	for i := range c.Latches {
		c.Latches[i].Next = side()
	}
	for range l.next(3) {
		c.Outputs = append(c.Outputs, side())
	}
	for range l.next(3) {
		c.Bads = append(c.Bads, side())
	}
	for range l.next(3) {
		c.Constraints = append(c.Constraints, side())
	}
	c.Max += l.next(3)
	return c
}

// byHand is P801 told again: what a literal is, by going back to what it hangs on.
func byHand(c api.Circuit, state, inputs []bool, l int) bool {
	turned := l&1 == 1
	if i := slices.Index(c.Inputs, l&^1); i >= 0 {
		return inputs[i] != turned
	}
	if i := slices.IndexFunc(c.Latches, func(x api.Latch) bool { return x.Lit == l&^1 }); i >= 0 {
		return state[i] != turned
	}
	if i := slices.IndexFunc(c.Ands, func(x api.And) bool { return x.Lit == l&^1 }); i >= 0 {
		return (byHand(c, state, inputs, c.Ands[i].A) && byHand(c, state, inputs, c.Ands[i].B)) != turned
	}
	return turned
}

func TestP801ManyCircuits(t *testing.T) {
	l := lot(8)
	for range 1000 {
		c := l.circuit()
		for range 4 {
			state, inputs := bits(l.next(16), len(c.Latches)), bits(l.next(16), len(c.Inputs))
			values := make([]bool, c.Max+1)
			for v := range values {
				values[v] = byHand(c, state, inputs, 2*v)
			}
			is := func(lit int) bool { return values[lit/2] != (lit%2 == 1) }
			row := api.Row{Holds: true}
			for _, x := range c.Latches {
				row.Next = append(row.Next, is(x.Next))
			}
			for _, lit := range c.Outputs {
				row.Outs = append(row.Outs, is(lit))
			}
			for _, lit := range c.Bads {
				row.Bads = append(row.Bads, is(lit))
			}
			if len(c.Bads) == 0 {
				row.Bads = row.Outs
			}
			for _, lit := range c.Constraints {
				row.Holds = row.Holds && is(lit)
			}
			checkValues(t, c, state, inputs, values)
			checkStep(t, c, state, inputs, row)
		}
	}
}

func TestP801StateAndInputs(t *testing.T) {
	for latches := range 6 {
		for inputs := range 5 {
			if latches != 3 || inputs != 2 {
				checkRefused(t, "another number of bools", small(), make([]bool, latches), make([]bool, inputs), api.ErrArg)
			}
		}
	}
	checkRefused(t, "far too many", small(), make([]bool, 1<<20), make([]bool, 2), api.ErrArg)
	checkRefused(t, "of a circuit of nothing", api.Circuit{}, []bool{true}, nil, api.ErrArg)
	checkRefused(t, "of a circuit of nothing", api.Circuit{}, nil, []bool{false}, api.ErrArg)
	checkRefused(t, "one in the other's place", api.Circuit{Max: 1, Inputs: []int{2}}, []bool{true}, nil, api.ErrArg)
	checkRefused(t, "one for each And", api.Circuit{Max: 1, Ands: []api.And{{Lit: 2}}}, nil, []bool{true}, api.ErrArg)
	checkRefused(t, "one for each variable", api.Circuit{Max: 3, Inputs: []int{4}}, nil, make([]bool, 3), api.ErrArg)
}

// fault is what is no circuit, and by which error.
type fault struct {
	name string
	c    api.Circuit
	e    api.Errno
}

func faults() []fault {
	return []fault{
		{"Max above", api.Circuit{Max: api.MaxVar + 1}, api.ErrLong},
		{"Max far above", api.Circuit{Max: math.MaxInt}, api.ErrLong},
		{"too many Inputs, and Max below 0", api.Circuit{Max: -1, Inputs: make([]int, api.MaxPorts+1)}, api.ErrLong},
		{"too many Ands", api.Circuit{Ands: make([]api.And, api.MaxAnds+1)}, api.ErrLong},
		{"too many Names", api.Circuit{Names: make([]api.Symbol, 1)}, api.ErrLong},
		{"Max below 0", api.Circuit{Max: -1}, api.ErrArg},
		{"Max far below 0", api.Circuit{Max: math.MinInt}, api.ErrArg},
		{"a literal above", api.Circuit{Outputs: []int{2}}, api.ErrArg},
		{"a literal far above", api.Circuit{Constraints: []int{math.MaxInt}}, api.ErrArg},
		{"a literal below 0", api.Circuit{Max: 1, Latches: []api.Latch{{Lit: 2, Next: -1}}}, api.ErrArg},
		{"an odd Input", api.Circuit{Max: 1, Inputs: []int{3}}, api.ErrArg},
		{"another's Reset", api.Circuit{Max: 2, Inputs: []int{4}, Latches: []api.Latch{{Lit: 2, Reset: 4}}}, api.ErrArg},
		{"an empty Name", api.Circuit{Outputs: []int{0}, Names: []api.Symbol{{Kind: 'o'}}}, api.ErrArg},
		{"a variable that is two", api.Circuit{Max: 1, Inputs: []int{2}, Ands: []api.And{{Lit: 2}}}, api.ErrTwice},
		{"a variable that is none", api.Circuit{Max: 1, Bads: []int{2}}, api.ErrNone},
		{"an And of what is none", api.Circuit{Max: 2, Ands: []api.And{{Lit: 2, A: 4}}}, api.ErrNone},
		{"an And on itself", api.Circuit{Max: 1, Ands: []api.And{{Lit: 2, A: 3, B: 0}}}, api.ErrCycle},
		{"a ring", api.Circuit{Max: 2, Ands: []api.And{{Lit: 2, A: 4, B: 1}, {Lit: 4, A: 1, B: 2}}}, api.ErrCycle},
	}
}

func TestP801Errors(t *testing.T) {
	for _, x := range faults() {
		if e := aig.Check(x.c); e != x.e {
			t.Errorf("P801: %s: aig.Check tells %d", x.name, e)
		}
		state, inputs := make([]bool, len(x.c.Latches)), make([]bool, len(x.c.Inputs))
		checkRefused(t, x.name, x.c, state, inputs, x.e)
		// aig.Check's error is told ahead of another number of bools.
		checkRefused(t, x.name, x.c, append(state, true), inputs, x.e)
		checkRefused(t, x.name, x.c, state, append(inputs, true), x.e)
		for _, free := range [][]bool{nil, {true, true}} {
			if first, e := First(x.c, free); e != x.e || len(first) > 0 {
				t.Errorf("P801: First: %s: %v, %d; want %d", x.name, first, e, x.e)
			}
		}
	}
}

func TestP801First(t *testing.T) {
	c := api.Circuit{Max: 9, Latches: []api.Latch{{Lit: 12, Reset: 12}, {Lit: 4, Reset: 1}, {Lit: 8, Reset: 8}, {Lit: 6}, {Lit: 2, Reset: 2}}}
	for free, want := range map[string]string{
		"": "01000", "0": "01000", "1": "11000",
		"01": "01100", "11": "11100", "10": "11000",
		"001": "01001", "111": "11101", "101": "11001", "011": "01101",
		"0001": "01000", "1110": "11101", "010111": "01100",
	} {
		checkFirst(t, c, written(free), written(want))
	}
	checkFirst(t, small(), nil, written("010"))
	checkFirst(t, small(), written("111"), written("110"))
	checkFirst(t, api.Circuit{Max: 1, Latches: []api.Latch{{Lit: 2, Next: 1}}}, written("1"), written("0"))
	checkFirst(t, api.Circuit{Max: 1, Latches: []api.Latch{{Lit: 2, Reset: 1}}}, written("0"), written("1"))
	checkFirst(t, api.Circuit{Max: 1, Inputs: []int{2}}, written("1"), nil)
	free := slices.Repeat([]bool{true}, 1000)
	checkFirst(t, chain(), free, written(strings.Repeat("011", 21)+"0"))
	clear(free)
	checkFirst(t, chain(), free, written(strings.Repeat("010", 21)+"0"))
}

func TestP801StepByStep(t *testing.T) {
	// The first latch is turned over as long as the input is true; the others stay as they begin.
	c := api.Circuit{
		Max: 10, Inputs: []int{2}, Outputs: []int{4, 6, 8}, Constraints: []int{2},
		Latches: []api.Latch{{Lit: 4, Next: 13, Reset: 1}, {Lit: 6, Next: 17, Reset: 6}, {Lit: 8, Next: 10}},
		Ands:    []api.And{{Lit: 12, A: 21, B: 19}, {Lit: 20, A: 2, B: 5}, {Lit: 18, A: 3, B: 4}, {Lit: 10, A: 1, B: 8}, {Lit: 16, A: 7, B: 1}},
	}
	state, e := First(c, []bool{true})
	if e != api.OK || !slices.Equal(state, written("110")) {
		t.Fatalf("P801: First tells %v, %d", state, e)
	}
	for i, in := range written("1101001") {
		row, e := Step(c, state, []bool{in})
		want := state[0] != in
		if e != api.OK || row.Next[0] != want || !row.Next[1] || row.Next[2] || row.Holds != in || !slices.Equal(row.Outs, state) {
			t.Errorf("P801: step %d from %v: %v, %d", i, state, row, e)
		}
		state = row.Next
	}
}

func TestP802NothingIsTurned(t *testing.T) {
	// With spare room behind each list, which is to stay as it is, too.
	c := small()
	c.Inputs = append(c.Inputs, -1)[:2]
	c.Latches = append(c.Latches, api.Latch{Lit: -1})[:3]
	c.Outputs = append(c.Outputs, -1)[:3]
	c.Bads = append(c.Bads, -1)[:2]
	c.Constraints = append(c.Constraints, -1)[:3]
	c.Ands = append(c.Ands, api.And{Lit: -1})[:4]
	state, inputs, free := written("0101")[:3], written("011")[:2], written("101")[:2]
	Values(c, state, inputs)
	Step(c, state, inputs)
	First(c, free)
	if !aig.Same(c, small()) || c.Inputs[:3][2] != -1 || c.Latches[:4][3].Lit != -1 || c.Outputs[:4][3] != -1 || c.Bads[:3][2] != -1 || c.Constraints[:4][3] != -1 || c.Ands[:5][4].Lit != -1 {
		t.Errorf("P802: the circuit is turned: %v", c)
	}
	if !slices.Equal(state[:4], written("0101")) || !slices.Equal(inputs[:3], written("011")) || !slices.Equal(free[:3], written("101")) {
		t.Errorf("P802: bools are turned: %v, %v, %v", state[:4], inputs[:3], free[:3])
	}
}

// turnOver turns over all bools of a list, and those of its spare room.
func turnOver(list []bool) {
	list = list[:cap(list)]
	for i := range list {
		list[i] = !list[i]
	}
}

func TestP802NothingIsKept(t *testing.T) {
	c := small()
	c.Bads, c.Names = nil, nil
	state, inputs, free := written("101"), written("01"), written("1")
	values, _ := Values(c, state, inputs)
	row, _ := Step(c, state, inputs)
	first, _ := First(c, free)
	wantValues, wantFirst := slices.Clone(values), slices.Clone(first)
	wantRow := api.Row{Next: slices.Clone(row.Next), Outs: slices.Clone(row.Outs), Bads: slices.Clone(row.Bads), Holds: row.Holds}
	// What was handed in is turned, and what was answered stays.
	for _, list := range [][]bool{state, inputs, free} {
		turnOver(list)
	}
	c.Ands[0], c.Outputs[1], c.Latches[0].Next = api.And{Lit: 20}, 0, 0
	if !slices.Equal(values, wantValues) || !alike(row, wantRow) || !slices.Equal(first, wantFirst) {
		t.Errorf("P802: an answer shares memory with an argument: %v, %v, %v", values, row, first)
	}
	// Each list of an answer is turned, and the others stay.
	turnOver(row.Outs)
	if !slices.Equal(row.Next, wantRow.Next) || !slices.Equal(row.Bads, wantRow.Bads) {
		t.Errorf("P802: lists of an answer share memory: %v", row)
	}
	for _, list := range [][]bool{values, row.Next, row.Bads, first} {
		turnOver(list)
	}
	c = small()
	c.Bads, c.Names = nil, nil
	checkRefused(t, "between", c, nil, nil, api.ErrArg)
	checkValues(t, c, written("101"), written("01"), wantValues)
	checkStep(t, c, written("101"), written("01"), wantRow)
	checkFirst(t, c, written("1"), wantFirst)
}

func TestP802AtOnce(t *testing.T) {
	type answers struct {
		values, first []bool
		row           api.Row
	}
	c := chain()
	state, inputs, free := bits(0x5a5a, api.MaxPorts), bits(-2, api.MaxPorts), bits(-1, 70)
	ask := func() (a answers) {
		a.values, _ = Values(c, state, inputs)
		a.row, _ = Step(c, state, inputs)
		a.first, _ = First(c, free)
		return a
	}
	want := ask()
	got := make([]answers, 16)
	var all sync.WaitGroup
	for i := range got {
		all.Go(func() { got[i] = ask() })
	}
	all.Wait()
	for i := range got {
		if !reflect.DeepEqual(got[i], want) {
			t.Errorf("P802: asked at once, %d is told another answer", i)
		}
	}
}
