package ternary

import (
	"math"
	"reflect"
	"slices"
	"strings"
	"sync"
	"testing"

	"retorter/aig"
	"retorter/api"
	"retorter/sim"
)

// written tells the values that 0, 1 and x write.
func written(s string) []int {
	var list []int
	for _, c := range s {
		list = append(list, map[rune]int{'0': api.No, '1': api.Yes, 'x': api.Any}[c])
	}
	return list
}

// row is what Step tells.
type row struct {
	next, bads []int
	holds      int
}

// step asks for Step.
func step(c api.Circuit, state, inputs []int) (row, api.Errno) {
	next, bads, holds, e := Step(c, state, inputs)
	return row{next, bads, holds}, e
}

// alike tells whether two rows are, nil and an empty list being one.
func alike(a, b row) bool {
	return slices.Equal(a.next, b.next) && slices.Equal(a.bads, b.bads) && a.holds == b.holds
}

func checkValues(t *testing.T, c api.Circuit, state, inputs, want []int) {
	t.Helper()
	if got, e := Values(c, state, inputs); e != api.OK || !slices.Equal(got, want) {
		t.Errorf("P901: Values(%.300v, %v, %v) = %.300v, %d; want %.300v", c, state, inputs, got, e, want)
	}
}

func checkStep(t *testing.T, c api.Circuit, state, inputs []int, want row) {
	t.Helper()
	if got, e := step(c, state, inputs); e != api.OK || !alike(got, want) {
		t.Errorf("P901: Step(%.300v, %v, %v) = %v, %d; want %v", c, state, inputs, got, e, want)
	}
}

// checkRefused asks for Values and Step, which both are to tell that error, and nothing beside it.
func checkRefused(t *testing.T, name string, c api.Circuit, state, inputs []int, want api.Errno) {
	t.Helper()
	if v, e := Values(c, state, inputs); e != want || len(v) > 0 {
		t.Errorf("P901: Values: %s: %.300v, %d; want %d", name, v, e, want)
	}
	if r, e := step(c, state, inputs); e != want || !alike(r, row{}) {
		t.Errorf("P901: Step: %s: %v, %d; want %d", name, r, e, want)
	}
}

func TestP901OfNothing(t *testing.T) {
	checkValues(t, api.Circuit{}, nil, nil, []int{api.No})
	checkValues(t, api.Circuit{}, []int{}, []int{}, []int{api.No})
	checkValues(t, api.Circuit{Max: api.MaxVar}, nil, nil, make([]int, api.MaxVar+1))
	checkStep(t, api.Circuit{}, nil, nil, row{holds: api.Yes})
	checkStep(t, api.Circuit{Max: api.MaxVar}, []int{}, []int{}, row{holds: api.Yes})
}

func TestP901And(t *testing.T) {
	for _, x := range []struct{ sides, straight, first, second, neither string }{
		// what it is of both as they stand, with the first one, the second one, both of them turned over
		{"00", "0", "0", "0", "1"},
		{"01", "0", "1", "0", "0"},
		{"0x", "0", "x", "0", "x"},
		{"10", "0", "0", "1", "0"},
		{"11", "1", "0", "0", "0"},
		{"1x", "x", "0", "x", "0"},
		{"x0", "0", "0", "x", "x"},
		{"x1", "x", "x", "0", "0"},
		{"xx", "x", "x", "x", "x"},
	} {
		for turns, want := range []string{x.straight, x.first, x.second, x.neither} {
			c := api.Circuit{Max: 3, Inputs: []int{2, 4}, Outputs: []int{6, 7}}
			c.Ands = []api.And{{Lit: 6, A: 2 + turns&1, B: 4 + turns>>1}}
			opposite := map[string]string{"0": "1", "1": "0", "x": "x"}[want]
			checkValues(t, c, nil, written(x.sides), written("0"+x.sides+want))
			checkStep(t, c, nil, written(x.sides), row{bads: written(want + opposite), holds: api.Yes})
		}
	}
}

func TestP901AndOfOneOrNone(t *testing.T) {
	for _, x := range []struct {
		a, b int
		want string // what it is of an input that is No, Yes, Any
	}{
		{0, 0, "000"}, {0, 1, "000"}, {1, 0, "000"}, {1, 1, "111"},
		{2, 2, "01x"}, {3, 3, "10x"}, {2, 3, "00x"}, {3, 2, "00x"},
		{1, 2, "01x"}, {2, 1, "01x"}, {3, 1, "10x"}, {0, 2, "000"}, {3, 0, "000"},
	} {
		c := api.Circuit{Max: 2, Inputs: []int{2}, Ands: []api.And{{Lit: 4, A: x.a, B: x.b}}}
		for i, in := range written("01x") {
			checkValues(t, c, nil, []int{in}, []int{api.No, in, written(x.want)[i]})
		}
	}
}

// gaps tells a circuit with variables that are none between those that are some, and Ands not in turn.
func gaps() api.Circuit {
	return api.Circuit{
		Max:         12,
		Inputs:      []int{18, 6},
		Latches:     []api.Latch{{Lit: 22, Next: 11, Reset: 22}, {Lit: 4, Next: 6}},
		Outputs:     []int{4, 5, 0},
		Bads:        []int{10, 23, 1},
		Constraints: []int{15, 1},
		Ands:        []api.And{{Lit: 10, A: 14, B: 21}, {Lit: 14, A: 18, B: 23}, {Lit: 20, A: 4, B: 7}},
		Names:       []api.Symbol{{Kind: 'l', Index: 1, Name: "z"}, {Kind: 'i', Index: 1, Name: "a b"}},
	}
}

func TestP901Gaps(t *testing.T) {
	for _, x := range []struct{ state, in, values, next, bads, holds string }{
		// 14 is 18 and not 22; 20 is 4 and not 6; 10 is 14 and not 20
		{"00", "00", "0000000000000", "10", "011", "1"},
		{"00", "10", "0000010101000", "00", "111", "0"},
		{"01", "10", "0010000101100", "10", "011", "0"},
		{"xx", "xx", "00xx0x0x0xxx0", "xx", "xx1", "x"},
		{"1x", "xx", "00xx00000xx10", "1x", "001", "1"},
		{"0x", "11", "00x1010101000", "01", "111", "0"},
		{"00", "x0", "00000x0x0x000", "x0", "x11", "x"},
		{"x1", "10", "0010000x011x0", "10", "0x1", "x"},
	} {
		checkValues(t, gaps(), written(x.state), written(x.in), written(x.values))
		checkStep(t, gaps(), written(x.state), written(x.in), row{written(x.next), written(x.bads), written(x.holds)[0]})
	}
}

func TestP901Constants(t *testing.T) {
	c := api.Circuit{Max: 2, Latches: []api.Latch{{Lit: 4, Next: 1}, {Lit: 2, Next: 0}}, Outputs: []int{4}, Bads: []int{1, 0, 1}}
	for _, state := range []string{"00", "11", "xx"} {
		checkStep(t, c, written(state), nil, row{written("10"), written("101"), api.Yes})
	}
}

func TestP901Next(t *testing.T) {
	// Each becomes what the one behind it is, all at once; the last one the first one's opposite. What they are at first is not asked.
	c := api.Circuit{Max: 3, Latches: []api.Latch{{Lit: 6, Next: 2, Reset: 1}, {Lit: 2, Next: 4, Reset: 2}, {Lit: 4, Next: 7}}}
	for state, next := range map[string]string{"000": "001", "100": "000", "x00": "00x", "0x1": "x11", "01x": "1x1", "xxx": "xxx", "1x0": "x00"} {
		checkStep(t, c, written(state), nil, row{next: written(next), holds: api.Yes})
		values := written(state)
		checkValues(t, c, written(state), nil, []int{api.No, values[1], values[2], values[0]})
	}
}

func TestP901Holds(t *testing.T) {
	for _, x := range []struct {
		constraints []int
		in, want    string
	}{
		{nil, "xx", "1"},
		{[]int{1}, "xx", "1"},
		{[]int{0}, "xx", "0"},
		{[]int{1, 1, 0}, "11", "0"},
		{[]int{0, 1, 1}, "11", "0"},
		{[]int{2}, "x1", "x"},
		{[]int{3}, "x1", "x"},
		{[]int{2, 4}, "11", "1"},
		{[]int{2, 4}, "10", "0"},
		{[]int{2, 4}, "x1", "x"},
		{[]int{2, 4}, "1x", "x"},
		{[]int{2, 4}, "x0", "0"},
		{[]int{2, 4}, "0x", "0"},
		{[]int{2, 4}, "xx", "x"},
		{[]int{3, 5}, "0x", "x"},
		{[]int{3, 5}, "1x", "0"},
		{[]int{3, 5}, "00", "1"},
		{[]int{2, 3}, "xx", "x"},
		{[]int{2, 1, 5}, "x1", "0"},
	} {
		c := api.Circuit{Max: 2, Inputs: []int{2, 4}, Constraints: x.constraints}
		checkStep(t, c, nil, written(x.in), row{holds: written(x.want)[0]})
		// What the bads are is told whether the constraints hold or not.
		c.Bads = []int{1, 2}
		checkStep(t, c, nil, written(x.in), row{bads: written("1" + x.in[:1]), holds: written(x.want)[0]})
	}
}

func TestP901BadsOrOutputs(t *testing.T) {
	c := api.Circuit{Max: 2, Inputs: []int{2, 4}, Outputs: []int{2, 3, 4}}
	checkStep(t, c, nil, written("0x"), row{bads: written("01x"), holds: api.Yes})
	c.Bads = []int{5}
	checkStep(t, c, nil, written("01"), row{bads: written("0"), holds: api.Yes})
	c.Outputs = nil
	checkStep(t, c, nil, written("0x"), row{bads: written("x"), holds: api.Yes})
}

func TestP901Lit(t *testing.T) {
	values := written("01x0x1")
	for v, want := range []string{"01", "10", "xx", "01", "xx", "10"} {
		for turned, x := range written(want) {
			if got := Lit(values, 2*v+turned); got != x {
				t.Errorf("P901: Lit %d: %d, want %d", 2*v+turned, got, x)
			}
		}
	}
	for _, l := range []int{12, 13, 14, 1000, 1 << 32, 1<<32 + 2, math.MaxInt, math.MaxInt - 1, -1, -2, -3, -12, -1 << 32, math.MinInt, math.MinInt + 1, math.MinInt + 2} {
		for _, some := range [][]int{values, values[:1], {}, nil} {
			if got := Lit(some, l); got != api.Any {
				t.Errorf("P901: Lit %d of %d values: %d, want Any", l, len(some), got)
			}
		}
	}
	for l := range 6 {
		want := api.Any
		if l < 2 {
			want = l
		}
		// What lies in the spare room is not there.
		if got := Lit(values[:1], l); got != want {
			t.Errorf("P901: Lit %d of one value: %d, want %d", l, got, want)
		}
		if got := Lit(nil, l); got != api.Any {
			t.Errorf("P901: Lit %d of no values: %d, want Any", l, got)
		}
	}
	// Variable 0 is what the values say, as the others are.
	if one, other := Lit(written("1"), 0), Lit(written("x"), 1); one != api.Yes || other != api.Any {
		t.Errorf("P901: Lit of variable 0: %d, %d", one, other)
	}
}

func TestP901LitOfAnyNumbers(t *testing.T) {
	for _, x := range []int{-1, 3, math.MaxInt, math.MinInt} {
		for l := range 4 {
			if got := Lit([]int{x, x}, l); got != x {
				t.Errorf("P901: Lit %d of %d: %d; No and Yes alone change places", l, x, got)
			}
		}
	}
}

// chain tells a circuit with as many Inputs, Latches and Ands as may be: each And hangs on the one ahead of it, and on an Input.
func chain() api.Circuit {
	c := api.Circuit{Max: api.MaxVar}
	for i := range api.MaxPorts {
		lit := 2*api.MaxVar - 2*i
		c.Inputs = append(c.Inputs, 2+2*i)
		c.Latches = append(c.Latches, api.Latch{Lit: lit, Next: lit + 1, Reset: []int{0, 1, lit}[i%3]})
		c.Outputs = append(c.Outputs, 2+2*i)
		c.Bads = append(c.Bads, lit)
		c.Constraints = append(c.Constraints, 2+2*i)
	}
	for i := range api.MaxAnds {
		c.Ands = append(c.Ands, api.And{Lit: 200 + 2*i, A: 198 + 2*i, B: 2 + 2*(i%api.MaxPorts)})
	}
	c.Ands[0].A = 1
	c.Bads[0] = c.Ands[api.MaxAnds-1].Lit
	return c
}

func TestP901Chain(t *testing.T) {
	c := chain()
	state, in := written(strings.Repeat("01x0", api.MaxPorts/4)), written(strings.Repeat("1", api.MaxPorts))
	next := written(strings.Repeat("10x1", api.MaxPorts/4))
	// The chain is Yes up to the first Input that is Any, Any up to the first one that is No, and No from there on.
	for _, x := range []struct{ unknown, false int }{{64, 64}, {0, 64}, {5, 64}, {64, 9}, {5, 9}, {9, 5}, {63, 63}} {
		values, inputs, holds := make([]int, api.MaxVar+1), slices.Clone(in), api.Yes
		if x.unknown < 64 {
			inputs[x.unknown], holds = api.Any, api.Any
		}
		if x.false < 64 {
			inputs[x.false], holds = api.No, api.No
		}
		copy(values[1:], inputs)
		for i := range state {
			values[api.MaxVar-i] = state[i]
		}
		is := api.Yes
		for i := range api.MaxAnds {
			if input := inputs[i%api.MaxPorts]; input == api.No || input == api.Any && is == api.Yes {
				is = input
			}
			values[100+i] = is
		}
		bads := slices.Clone(state)
		bads[0] = is
		for range 2 {
			checkValues(t, c, state, inputs, values)
			checkStep(t, c, state, inputs, row{next, bads, holds})
			slices.Reverse(c.Ands)
		}
	}
}

func TestP901HowManyValues(t *testing.T) {
	for latches := range 5 {
		for inputs := range 5 {
			if latches != 2 || inputs != 2 {
				checkRefused(t, "another number of values", gaps(), make([]int, latches), make([]int, inputs), api.ErrArg)
			}
		}
	}
	checkRefused(t, "far too many", gaps(), make([]int, 1<<20), make([]int, 2), api.ErrArg)
	checkRefused(t, "of a circuit of nothing", api.Circuit{}, []int{api.Any}, nil, api.ErrArg)
	checkRefused(t, "of a circuit of nothing", api.Circuit{}, nil, []int{api.No}, api.ErrArg)
	checkRefused(t, "one in the other's place", api.Circuit{Max: 1, Inputs: []int{2}}, []int{api.Yes}, nil, api.ErrArg)
	checkRefused(t, "one for each And", api.Circuit{Max: 1, Ands: []api.And{{Lit: 2}}}, nil, []int{api.Yes}, api.ErrArg)
}

func TestP901NoneOfThree(t *testing.T) {
	for _, x := range []int{-1, -2, 3, 4, 255, 256, 258, 1 << 32, 1<<32 + 1, math.MaxInt, math.MinInt, math.MinInt + 1} {
		for place := range 2 {
			state, inputs := written("1x"), written("x0")
			state[place] = x
			checkRefused(t, "a Latch is none of three", gaps(), state, inputs, api.ErrArg)
			state = written("1x")
			inputs[place] = x
			checkRefused(t, "an Input is none of three", gaps(), state, inputs, api.ErrArg)
		}
		// Nothing hangs on this one.
		checkRefused(t, "an idle Input is none of three", api.Circuit{Max: 1, Inputs: []int{2}}, nil, []int{x}, api.ErrArg)
		checkRefused(t, "the circuit is none either", api.Circuit{Max: api.MaxVar + 1, Inputs: []int{2}}, nil, []int{x}, api.ErrLong)
	}
}

func TestP901Faults(t *testing.T) {
	for _, x := range []struct {
		c api.Circuit
		e api.Errno
	}{
		{api.Circuit{Max: math.MaxInt}, api.ErrLong},
		{api.Circuit{Max: -1, Inputs: make([]int, api.MaxPorts+1)}, api.ErrLong},
		{api.Circuit{Ands: make([]api.And, api.MaxAnds+1)}, api.ErrLong},
		{api.Circuit{Max: -1}, api.ErrArg},
		{api.Circuit{Max: math.MinInt}, api.ErrArg},
		{api.Circuit{Constraints: []int{math.MaxInt}}, api.ErrArg},
		{api.Circuit{Max: 1, Latches: []api.Latch{{Lit: 2, Next: -1}}}, api.ErrArg},
		{api.Circuit{Outputs: []int{0}, Names: []api.Symbol{{Kind: 'o'}}}, api.ErrArg},
		{api.Circuit{Max: 1, Inputs: []int{2}, Ands: []api.And{{Lit: 2}}}, api.ErrTwice},
		{api.Circuit{Max: 2, Inputs: []int{4}, Bads: []int{2}}, api.ErrNone},
		{api.Circuit{Max: 1, Ands: []api.And{{Lit: 2, A: 3, B: 0}}}, api.ErrCycle},
	} {
		if e := aig.Check(x.c); e != x.e {
			t.Errorf("P901: aig.Check of %.300v tells %d", x.c, e)
		}
		state, inputs := make([]int, len(x.c.Latches)), make([]int, len(x.c.Inputs))
		checkRefused(t, "no circuit", x.c, state, inputs, x.e)
		checkRefused(t, "no circuit, one Latch too many", x.c, append(state, api.No), inputs, x.e)
		checkRefused(t, "no circuit, one Input too many that is none of three", x.c, state, append(inputs, 3), x.e)
	}
}

// eachOf tells each list of n values in turn, out of the first kinds values.
func eachOf(kinds, n int, told func(list []int)) {
	list := make([]int, n)
	for i := range int(math.Pow(float64(kinds), float64(n))) {
		for place := range list {
			list[place] = i % kinds
			i /= kinds
		}
		told(list)
	}
}

// eachOfTwoAnds tells each circuit of an Input, two Latches and two Ands, by turns the one or the other first.
func eachOfTwoAnds(told func(c api.Circuit)) {
	for sides := range 8 * 8 * 10 * 10 {
		first := api.And{Lit: 8, A: sides % 8, B: sides / 8 % 8}
		second := api.And{Lit: 10, A: sides / 64 % 10, B: sides / 640}
		c := api.Circuit{
			Max: 5, Inputs: []int{4}, Bads: []int{10, 11, 2, 9}, Constraints: []int{8, 10},
			Latches: []api.Latch{{Lit: 6, Next: 11}, {Lit: 2, Next: 8, Reset: 1}},
			Ands:    []api.And{first, second},
		}
		if (sides+sides/8)%2 == 1 {
			slices.Reverse(c.Ands)
		}
		told(c)
	}
}

// byHand is P901 told again, with No, Any and Yes as -1, 0 and 1: an And is the least of its sides, and what is turned over is the negative.
func byHand(c api.Circuit, state, inputs []int, l int) int {
	weight := func(x int) int { return []int{api.No: -1, api.Yes: 1, api.Any: 0}[x] }
	is := -1
	if i := slices.Index(c.Inputs, l&^1); i >= 0 {
		is = weight(inputs[i])
	}
	if i := slices.IndexFunc(c.Latches, func(x api.Latch) bool { return x.Lit == l&^1 }); i >= 0 {
		is = weight(state[i])
	}
	if i := slices.IndexFunc(c.Ands, func(x api.And) bool { return x.Lit == l&^1 }); i >= 0 {
		is = min(weight(byHand(c, state, inputs, c.Ands[i].A)), weight(byHand(c, state, inputs, c.Ands[i].B)))
	}
	if l&1 == 1 {
		is = -is
	}
	return []int{api.No, api.Any, api.Yes}[is+1]
}

func TestP901EveryCircuitOfTwoAnds(t *testing.T) {
	eachOfTwoAnds(func(c api.Circuit) {
		eachOf(3, 3, func(known []int) {
			state, inputs := known[:2], known[2:]
			var values []int
			for v := range c.Max + 1 {
				values = append(values, byHand(c, state, inputs, 2*v))
			}
			is := func(l int) int { return byHand(c, state, inputs, l) }
			together := api.Circuit{Max: 6, Inputs: c.Inputs, Latches: c.Latches, Ands: append([]api.And{{Lit: 12, A: 8, B: 10}}, c.Ands...)}
			checkValues(t, c, state, inputs, values)
			checkStep(t, c, state, inputs, row{[]int{is(11), is(8)}, []int{is(10), is(11), is(2), is(9)}, byHand(together, state, inputs, 12)})
		})
	})
}

// idle tells whether others say Yes where they are not asked, so that others again come to the same.
func idle(values, others []int) bool {
	for i, x := range values {
		if x != api.Any && others[i] == api.Yes {
			return true
		}
	}
	return false
}

// narrowed tells bools by values of three; those that are Any by others, in turn.
func narrowed(values, others []int) []bool {
	var list []bool
	for i, x := range values {
		if x == api.Any {
			x = others[i]
		}
		list = append(list, x == api.Yes)
	}
	return list
}

// against tells whether values that are not Any are other ones than those bools.
func against(values []int, is []bool) bool {
	for i, x := range values {
		if x != api.Any && (x == api.Yes) != is[i] {
			return true
		}
	}
	return len(values) != len(is)
}

func TestP902WhatIsNotAnyIsSo(t *testing.T) {
	eachOfTwoAnds(func(c api.Circuit) {
		eachOf(3, 3, func(known []int) {
			state, inputs := known[:2], known[2:]
			values, _ := Values(c, state, inputs)
			r, _ := step(c, state, inputs)
			eachOf(2, 3, func(others []int) {
				if idle(known, others) {
					return
				}
				was, in := narrowed(state, others), narrowed(inputs, others[2:])
				sure, _ := sim.Values(c, was, in)
				comes, _ := sim.Step(c, was, in)
				if against(values, sure) || against(r.next, comes.Next) || against(r.bads, comes.Bads) || against([]int{r.holds}, []bool{comes.Holds}) {
					t.Errorf("P902: of %v in %v with %v: %v, %v, but %v, %v", c, state, inputs, values, r, sure, comes)
				}
			})
		})
	})
}

func TestP902AllIsKnown(t *testing.T) {
	// Without any Any nothing is Any.
	eachOf(2, 4, func(known []int) {
		values, e := Values(gaps(), known[:2], known[2:])
		if r, _ := step(gaps(), known[:2], known[2:]); e != api.OK || slices.Contains(slices.Concat(values, r.next, r.bads, []int{r.holds}), api.Any) {
			t.Errorf("P902: with %v: %v, %v, %d", known, values, r, e)
		}
	})
}

func TestP902NothingIsTurned(t *testing.T) {
	// With spare room behind each list, which is to stay as it is, too.
	c := gaps()
	c.Inputs = append(c.Inputs, -1)[:2]
	c.Latches = append(c.Latches, api.Latch{Lit: -1})[:2]
	c.Outputs = append(c.Outputs, -1)[:3]
	c.Bads = append(c.Bads, -1)[:3]
	c.Constraints = append(c.Constraints, -1)[:2]
	c.Ands = append(c.Ands, api.And{Lit: -1})[:3]
	state, inputs, values := written("x10")[:2], written("0x1")[:2], written("01x1")[:3]
	Values(c, state, inputs)
	Step(c, state, inputs)
	Lit(values, 3)
	Lit(values, 7)
	if !aig.Same(c, gaps()) || c.Inputs[:3][2] != -1 || c.Latches[:3][2].Lit != -1 || c.Outputs[:4][3] != -1 || c.Bads[:4][3] != -1 || c.Constraints[:3][2] != -1 || c.Ands[:4][3].Lit != -1 {
		t.Errorf("P902: the circuit is turned: %v", c)
	}
	if !slices.Equal(state[:3], written("x10")) || !slices.Equal(inputs[:3], written("0x1")) || !slices.Equal(values[:4], written("01x1")) {
		t.Errorf("P902: values are turned: %v, %v, %v", state[:3], inputs[:3], values[:4])
	}
}

// fill sets all of lists, and of their spare room, to another number.
func fill(lists ...[]int) {
	for _, list := range lists {
		list = list[:cap(list)]
		for i := range list {
			list[i] += 7
		}
	}
}

func TestP902NothingIsKept(t *testing.T) {
	c := gaps()
	c.Bads, c.Names = nil, nil
	state, inputs := written("x1"), written("10")
	wantValues, wantRow := written("0010000x011x0"), row{written("10"), written("100"), api.Any}
	values, _ := Values(c, state, inputs)
	r, _ := step(c, state, inputs)
	// What was handed in is turned, and what was answered stays.
	fill(state, inputs, c.Outputs)
	c.Ands[0], c.Latches[0].Next = api.And{Lit: 10}, 0
	if !slices.Equal(values, wantValues) || !alike(r, wantRow) {
		t.Errorf("P902: an answer shares memory with an argument: %v, %v", values, r)
	}
	// One list of an answer is turned, and the other one stays.
	fill(r.bads)
	if !slices.Equal(r.next, wantRow.next) {
		t.Errorf("P902: lists of an answer share memory: %v", r)
	}
	fill(values, r.next)
	c = gaps()
	c.Bads, c.Names = nil, nil
	checkRefused(t, "between", c, nil, nil, api.ErrArg)
	checkValues(t, c, written("x1"), written("10"), wantValues)
	checkStep(t, c, written("x1"), written("10"), wantRow)
}

func TestP902AtOnce(t *testing.T) {
	type answers struct {
		values []int
		row    row
		lit    int
	}
	c := chain()
	state, inputs := written(strings.Repeat("01x0", api.MaxPorts/4)), written(strings.Repeat("1x11", api.MaxPorts/4))
	ask := func() (a answers) {
		a.values, _ = Values(c, state, inputs)
		a.row, _ = step(c, state, inputs)
		a.lit = Lit(inputs, 7)
		return a
	}
	want := ask()
	got := make([]answers, 16)
	var all sync.WaitGroup
	for i := range got {
		all.Go(func() { got[i] = ask() })
	}
	all.Wait()
	for i := range got {
		if !reflect.DeepEqual(got[i], want) {
			t.Errorf("P902: asked at once, %d is told another answer", i)
		}
	}
}
