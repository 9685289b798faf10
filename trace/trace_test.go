package trace

import (
	"fmt"
	"math"
	"slices"
	"testing"

	"retorter/aig"
	"retorter/api"
)

// small tells a circuit that has something of each kind, its Ands not in turn, with variables that are none.
// Inputs x (7), y (3); Latches p (15: either at first), q (2: true at first), r (4: false at first).
// Next: p: x; q: p and y; r: not r. Bads: p and r; not q. Constraint: not both x and q.
func small() api.Circuit {
	return api.Circuit{
		Max:         20,
		Inputs:      []int{14, 6},
		Latches:     []api.Latch{{Lit: 30, Next: 14, Reset: 30}, {Lit: 4, Next: 24, Reset: 1}, {Lit: 8, Next: 9}},
		Outputs:     []int{0, 23, 8},
		Bads:        []int{20, 5},
		Constraints: []int{1, 33},
		Ands:        []api.And{{Lit: 32, A: 18, B: 1}, {Lit: 20, A: 30, B: 8}, {Lit: 24, A: 6, B: 30}, {Lit: 18, A: 4, B: 14}, {Lit: 22, A: 0, B: 6}},
		Names:       []api.Symbol{{Kind: 'l', Index: 2, Name: "z"}, {Kind: 'i', Index: 1, Name: "a b"}},
	}
}

// written tells the bools that 0 and 1 write.
func written(s string) []bool {
	var list []bool
	for _, c := range s {
		list = append(list, c == '1')
	}
	return list
}

// of tells a trace of a start and of inputs.
func of(start string, inputs ...string) api.Trace {
	t := api.Trace{Start: written(start)}
	for _, s := range inputs {
		t.Inputs = append(t.Inputs, written(s))
	}
	return t
}

// alike tells whether two traces are, nil and an empty list being one.
func alike(a, b api.Trace) bool {
	return slices.Equal(a.Start, b.Start) && slices.EqualFunc(a.Inputs, b.Inputs, slices.Equal)
}

// short tells the beginning of what a thing is written as.
func short(x any) string {
	return fmt.Sprintf("%.300s", fmt.Sprint(x))
}

func checkCheck(t *testing.T, name string, c api.Circuit, bad int, tr api.Trace, want bool) {
	t.Helper()
	if got := Check(c, bad, tr); got != want {
		t.Errorf("P1101: %s: Check(%s, %d, %s) = %v", name, short(c), bad, short(tr), got)
	}
}

func TestP1101OneStep(t *testing.T) {
	yes := api.Circuit{Bads: []int{1}}
	checkCheck(t, "of nothing", yes, 0, of("", ""), true)
	checkCheck(t, "many steps of nothing", yes, 0, of("", "", "", "", ""), true)
	checkCheck(t, "no step", yes, 0, of(""), false)
	checkCheck(t, "no bad", api.Circuit{}, 0, of("", ""), false)
	for i, want := range []bool{false, true, false, true, true, false} {
		c := api.Circuit{Max: 2, Inputs: []int{2}, Latches: []api.Latch{{Lit: 4, Next: 5, Reset: 4}}, Bads: []int{0, 1, 2, 3, 4, 5}}
		checkCheck(t, "each literal", c, i, of("1", "0"), want)
		checkCheck(t, "each literal", c, i, of("0", "1"), want != (i > 1))
		// What is next is not yet at the last step.
		checkCheck(t, "each literal", c, i, of("0", "1", "0"), want)
		checkCheck(t, "each literal", c, i, of("1", "0", "1", "0"), want)
	}
}

func TestP1101Small(t *testing.T) {
	for _, x := range []struct {
		name string
		bad  int
		t    api.Trace
		want bool
	}{
		{"p at first, r behind a step, and p again", 0, of("110", "10", "00"), false},
		{"a Constraint that does not hold, though the rest would be right", 0, of("010", "10", "00"), false},
		{"x once q is false", 0, of("010", "00", "10", "00", "00"), false},
		{"p and r together", 0, of("010", "00", "00", "10", "00"), true},
		{"p and r together, x at the last step too", 0, of("010", "00", "00", "10", "10"), true},
		{"a step more", 0, of("010", "00", "00", "10", "10", "00"), false},
		{"two steps more", 0, of("010", "00", "00", "10", "10", "10", "00"), true},
		{"not q, behind one step", 1, of("010", "00", "10"), true},
		{"not q, and it comes back", 1, of("110", "01", "10"), false},
		{"q stays, and the Constraint fails at the last step", 1, of("110", "01", "00"), false},
		{"not q behind two steps", 1, of("110", "01", "00", "00"), true},
		{"the Constraint fails first and holds later", 1, of("110", "11", "00", "00"), false},
		{"not q at first: its Reset is 1", 1, of("000", "00"), false},
		{"r at first: its Reset is 0", 0, of("111", "00"), false},
		{"nothing comes about", 0, of("110", "00"), false},
	} {
		checkCheck(t, x.name, small(), x.bad, x.t, x.want)
	}
}

func TestP1101LastStep(t *testing.T) {
	// Bad and Constraint are inputs: the bad counts at the last step alone, the Constraint at each one.
	c := api.Circuit{Max: 2, Inputs: []int{2, 4}, Bads: []int{2}, Constraints: []int{4}}
	for steps := 1; steps <= 4; steps++ {
		for n := range 1 << (2 * steps) {
			tr := api.Trace{}
			want := true
			for i := range steps {
				bad, holds := n>>(2*i)&1 == 1, n>>(2*i+1)&1 == 1
				tr.Inputs = append(tr.Inputs, []bool{bad, holds})
				want = want && holds && (bad || i < steps-1)
			}
			checkCheck(t, "inputs", c, 0, tr, want)
		}
	}
	c.Constraints = []int{4, 1, 5}
	checkCheck(t, "Constraints that never hold together", c, 0, of("", "11"), false)
	checkCheck(t, "Constraints that never hold together", c, 0, of("", "10"), false)
	c.Constraints = []int{4, 2}
	checkCheck(t, "the last Constraint", c, 0, of("", "01", "11"), false)
	checkCheck(t, "the first Constraint", c, 0, of("", "10", "11"), false)
	checkCheck(t, "both Constraints", c, 0, of("", "11", "11"), true)
	c.Constraints = []int{0}
	checkCheck(t, "what is false", c, 0, of("", "11"), false)
}

func TestP1101Start(t *testing.T) {
	c := api.Circuit{Max: 3, Latches: []api.Latch{{Lit: 6, Next: 6, Reset: 1}, {Lit: 2, Next: 2, Reset: 2}, {Lit: 4, Next: 4}}, Bads: []int{1}}
	for n := range 8 {
		start := []bool{n&1 == 1, n&2 == 2, n&4 == 4}
		checkCheck(t, "Resets", c, 0, api.Trace{Start: start, Inputs: make([][]bool, 1)}, start[0] && !start[2])
		checkCheck(t, "Resets", c, 0, api.Trace{Start: start, Inputs: make([][]bool, 3)}, start[0] && !start[2])
	}
	for _, start := range []string{"", "1", "10", "1000", "1100", "100000"} {
		checkCheck(t, "another number of bools", c, 0, of(start, ""), false)
	}
	checkCheck(t, "far too many bools", c, 0, api.Trace{Start: make([]bool, 1<<20), Inputs: make([][]bool, 1)}, false)
	checkCheck(t, "a bool of no Latch", api.Circuit{Bads: []int{1}}, 0, of("0", ""), false)
	c.Latches[0].Reset, c.Latches[2].Reset = 6, 4
	for n := range 8 {
		checkCheck(t, "no Resets", c, 0, api.Trace{Start: []bool{n&1 == 1, n&2 == 2, n&4 == 4}, Inputs: make([][]bool, 1)}, true)
	}
}

func TestP1101Inputs(t *testing.T) {
	good := of("010", "00", "00", "10", "00")
	checkCheck(t, "as it is", small(), 0, good, true)
	for i := range good.Inputs {
		for _, wrong := range []string{"", "0", "1", "000", "100", "0000000"} {
			tr := of("010", "00", "00", "10", "00")
			tr.Inputs[i] = written(wrong)
			checkCheck(t, "another number of bools", small(), 0, tr, false)
		}
	}
	checkCheck(t, "no Inputs", small(), 0, of("010"), false)
	checkCheck(t, "nothing", small(), 0, api.Trace{}, false)
	checkCheck(t, "bools of no Input", api.Circuit{Bads: []int{1}}, 0, of("", "", "0"), false)
	c := api.Circuit{Max: 1, Inputs: []int{2}, Bads: []int{1}}
	checkCheck(t, "bools that want", c, 0, of("", "0", ""), false)
	checkCheck(t, "bools that are there", c, 0, of("", "0", "1"), true)
}

func TestP1101Bads(t *testing.T) {
	one := of("", "1")
	c := api.Circuit{Max: 1, Inputs: []int{2}, Outputs: []int{2, 3, 1}}
	for bad, want := range []bool{true, false, true, false, false} {
		checkCheck(t, "Outputs", c, bad, one, want)
	}
	c.Bads = []int{3, 2}
	for bad, want := range []bool{false, true, false, false} {
		checkCheck(t, "Bads, not Outputs", c, bad, one, want)
	}
	for _, bad := range []int{-1, -2, math.MinInt, math.MinInt + 1, 2, 64, 1 << 32, 1<<32 + 1, math.MaxInt} {
		checkCheck(t, "no such bad", c, bad, one, false)
		checkCheck(t, "no such bad", api.Circuit{Bads: slices.Repeat([]int{1}, api.MaxPorts)}, bad, of("", ""), bad == 2)
	}
	last := api.Circuit{Bads: make([]int, api.MaxPorts)}
	last.Bads[api.MaxPorts-1] = 1
	checkCheck(t, "the last one that may be", last, api.MaxPorts-1, of("", ""), true)
	checkCheck(t, "the one ahead of it", last, api.MaxPorts-2, of("", ""), false)
}

func TestP1101Faults(t *testing.T) {
	for _, c := range []api.Circuit{
		{Max: api.MaxVar + 1, Bads: []int{1}},
		{Max: math.MaxInt, Bads: []int{1}},
		{Max: -1, Bads: []int{1}},
		{Max: math.MinInt, Bads: []int{1}},
		{Bads: slices.Repeat([]int{1}, api.MaxPorts+1)},
		{Bads: []int{1, 2}},
		{Bads: []int{1, -1}},
		{Bads: []int{1}, Outputs: []int{math.MaxInt}},
		{Bads: []int{1}, Constraints: []int{math.MinInt}},
		{Max: 1, Bads: []int{1, 2}},
		{Max: 1, Bads: []int{1}, Ands: []api.And{{Lit: 2, A: 3}}},
		{Max: 1, Bads: []int{1}, Ands: []api.And{{Lit: 3}}},
		{Max: 1, Bads: []int{1}, Ands: []api.And{{Lit: 2}, {Lit: 2}}},
		{Bads: []int{1}, Names: []api.Symbol{{Kind: 'b'}}},
	} {
		if aig.Check(c) == api.OK {
			t.Errorf("P1101: %s is a circuit", short(c))
		}
		checkCheck(t, "no circuit", c, 0, of("", ""), false)
		checkCheck(t, "no circuit", c, 0, of(""), false)
		checkCheck(t, "no circuit", c, -1, of("1", "1"), false)
	}
	// A Reset that can't be is no fault of the trace.
	c := api.Circuit{Max: 2, Latches: []api.Latch{{Lit: 2, Reset: 4}, {Lit: 4}}, Bads: []int{1}}
	checkCheck(t, "another's Reset", c, 0, of("00", ""), false)
	c.Latches[0].Reset = 0
	checkCheck(t, "its own Reset", c, 0, of("00", ""), true)
}

// counter tells a circuit that counts by so many Latches, from 0 on; its bads: all of them are true; what is true.
func counter(bits int) api.Circuit {
	c := api.Circuit{Max: bits}
	and := func(a, b int) int {
		c.Max++
		c.Ands = append(c.Ands, api.And{Lit: 2 * c.Max, A: a, B: b})
		return 2 * c.Max
	}
	carry := 1
	for i := range bits {
		lit := 2 * (i + 1)
		turned := and(and(lit, carry)+1, and(lit+1, carry^1)+1)
		c.Latches = append(c.Latches, api.Latch{Lit: lit, Next: turned})
		carry = and(lit, carry)
	}
	c.Bads = []int{carry, 1}
	return c
}

func TestP1101LongTraces(t *testing.T) {
	// All 20 bits of the counter are true at the last step that may be.
	c := counter(20)
	start := make([]bool, 20)
	for _, x := range []struct {
		bad, steps int
		want       bool
	}{
		{0, api.MaxSteps, true},
		{0, api.MaxSteps - 1, false},
		{1, api.MaxSteps, true},
		{1, api.MaxSteps + 1, false},
		{0, 2 * api.MaxSteps, false},
	} {
		got := Check(c, x.bad, api.Trace{Start: start, Inputs: make([][]bool, x.steps)})
		if got != x.want {
			t.Errorf("P1101: bad %d in %d steps: %v", x.bad, x.steps, got)
		}
	}
	// One of the last Inputs is wrong.
	long := api.Trace{Start: start, Inputs: make([][]bool, api.MaxSteps)}
	long.Inputs[api.MaxSteps-1] = []bool{false}
	if Check(c, 0, long) {
		t.Error("P1101: a wrong bool at the last step")
	}
}

func TestP1101LargestCircuit(t *testing.T) {
	// A chain of Ands of all Inputs and Latches, each one the other way round from step to step.
	c := api.Circuit{Max: api.MaxVar}
	for i := range api.MaxPorts {
		lit := 2*api.MaxVar - 2*i
		c.Inputs = append(c.Inputs, 2+2*i)
		c.Latches = append(c.Latches, api.Latch{Lit: lit, Next: lit + 1, Reset: []int{0, 1, lit}[i%3]})
		c.Constraints = append(c.Constraints, 3+2*i-i%2)
	}
	for i := range api.MaxAnds {
		c.Ands = append(c.Ands, api.And{Lit: 200 + 2*i, A: 198 + 2*i, B: []int{c.Latches[i%api.MaxPorts].Lit + 1 - i%2, c.Inputs[i%api.MaxPorts] + 1 - i%2}[i/1000]})
	}
	c.Ands[0].A = 1
	slices.Reverse(c.Ands)
	c.Bads = slices.Repeat([]int{c.Ands[0].Lit}, api.MaxPorts)
	// The latch i is to be i%2 at the last step; the Input i is i%2 at each one.
	start, in := make([]bool, api.MaxPorts), make([]bool, api.MaxPorts)
	for i := range start {
		start[i], in[i] = i%2 == 1, i%2 == 1
		c.Latches[i].Reset = c.Latches[i].Lit
	}
	for steps := 1; steps <= 5; steps++ {
		tr := api.Trace{Start: start, Inputs: slices.Repeat([][]bool{in}, steps)}
		checkCheck(t, "a chain", c, api.MaxPorts-1, tr, steps%2 == 1)
	}
	for i := range api.MaxPorts {
		wrong := slices.Clone(in)
		wrong[i] = !wrong[i]
		checkCheck(t, "one Input that no Constraint lets be", c, 0, api.Trace{Start: start, Inputs: [][]bool{in, wrong, in}}, false)
		other := slices.Clone(start)
		other[i] = !other[i]
		checkCheck(t, "one Latch that is not as the chain needs it", c, 0, api.Trace{Start: other, Inputs: [][]bool{in}}, false)
	}
}
