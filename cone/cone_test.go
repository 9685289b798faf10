package cone

import (
	"math"
	"slices"
	"testing"

	"retorter/aig"
	"retorter/api"
)

// small tells a circuit that has something of each kind, its Ands not in turn, with variables that are none.
// Inputs 7, 3, 11; Latches 15 (next: not 10), 2 (next: itself), 4 (next: 3), 9 (next: 4), 18 (next: true);
// Ands 10 (6 and not 12), 12 (3 and 6), 6 (not 7 and 15), 1 (false and 2), 16 (10 and 9).
func small() api.Circuit {
	return api.Circuit{
		Max:         20,
		Inputs:      []int{14, 6, 22},
		Latches:     []api.Latch{{Lit: 30, Next: 21, Reset: 30}, {Lit: 4, Next: 5, Reset: 1}, {Lit: 8, Next: 6}, {Lit: 18, Next: 8, Reset: 18}, {Lit: 36, Next: 1}},
		Outputs:     []int{0, 23, 8},
		Bads:        []int{20, 19, 3, 0, 37, 22, 32, 24},
		Ands:        []api.And{{Lit: 20, A: 12, B: 25}, {Lit: 24, A: 6, B: 12}, {Lit: 12, A: 15, B: 30}, {Lit: 2, A: 1, B: 5}, {Lit: 32, A: 20, B: 18}},
		Names:       []api.Symbol{{Kind: 'l', Index: 2, Name: "z"}, {Kind: 'i', Index: 1, Name: "a b"}, {Kind: 'b', Index: 7, Name: "y"}},
		Constraints: nil,
	}
}

// loop is on what of small hangs all that hangs on the Latch 15.
func loop() []int { return []int{3, 6, 7, 10, 12, 15} }

// cut is what Cut tells.
type cut struct {
	c               api.Circuit
	inputs, latches []int
	e               api.Errno
}

// cutOf asks for Cut.
func cutOf(c api.Circuit, bad int) cut {
	got, inputs, latches, e := Cut(c, bad)
	return cut{got, inputs, latches, e}
}

// alike tells whether two answers are, nil and an empty list being one.
func alike(a, b cut) bool {
	return aig.Same(a.c, b.c) && slices.Equal(a.inputs, b.inputs) && slices.Equal(a.latches, b.latches) && a.e == b.e
}

func checkOf(t *testing.T, c api.Circuit, lits, want []int) {
	t.Helper()
	if got, e := Of(c, lits); e != api.OK || !slices.Equal(got, want) {
		t.Errorf("P1001: Of(%.300v, %v) = %.300v, %d; want %.300v", c, lits, got, e, want)
	}
}

func checkCut(t *testing.T, c api.Circuit, bad int, want cut) {
	t.Helper()
	if got := cutOf(c, bad); !alike(got, want) {
		t.Errorf("P1001: Cut(%.300v, %d) = %.300v; want %.300v", c, bad, got, want)
	}
}

// checkRefused asks for Of and Cut, which are to tell that error, and nothing beside it.
func checkRefused(t *testing.T, name string, c api.Circuit, lits []int, bad int, want api.Errno) {
	t.Helper()
	if got, e := Of(c, lits); e != want || len(got) > 0 {
		t.Errorf("P1001: Of: %s: %v, %d; want %d", name, got, e, want)
	}
	checkCut(t, c, bad, cut{e: want})
}

func TestP1001OfNothing(t *testing.T) {
	for _, c := range []api.Circuit{{}, {Max: 7}, {Max: api.MaxVar}, {Outputs: []int{0, 1}}, small()} {
		for _, lits := range [][]int{nil, {}, {0}, {1}, {0, 1, 0}} {
			checkOf(t, c, lits, nil)
		}
	}
}

func TestP1001Of(t *testing.T) {
	for _, x := range []struct{ lits, want []int }{
		{[]int{14}, []int{7}},
		{[]int{15}, []int{7}},
		{[]int{14, 15, 14}, []int{7}},
		{[]int{22, 6, 14}, []int{3, 7, 11}},
		{[]int{22, 1, 6}, []int{3, 11}},
		{[]int{30}, loop()},
		{[]int{31}, loop()},
		{[]int{12}, loop()},
		{[]int{25}, loop()},
		{[]int{20}, loop()},
		{[]int{4}, []int{2}},
		{[]int{2}, []int{1, 2}},
		{[]int{3, 5}, []int{1, 2}},
		{[]int{8}, []int{3, 4}},
		{[]int{19}, []int{3, 4, 9}},
		{[]int{36}, []int{18}},
		{[]int{33}, []int{3, 4, 6, 7, 9, 10, 12, 15, 16}},
		{[]int{36, 2, 23, 32}, []int{1, 2, 3, 4, 6, 7, 9, 10, 11, 12, 15, 16, 18}},
	} {
		checkOf(t, small(), x.lits, x.want)
		slices.Reverse(x.lits)
		checkOf(t, small(), x.lits, x.want)
	}
}

func TestP1001OfSides(t *testing.T) {
	// Both sides count, whatever the And comes to.
	for _, x := range []struct {
		a, b int
		want []int
	}{{0, 0, []int{3}}, {1, 1, []int{3}}, {2, 0, []int{1, 3}}, {0, 4, []int{2, 3}}, {2, 4, []int{1, 2, 3}}, {5, 3, []int{1, 2, 3}}, {3, 3, []int{1, 3}}, {4, 5, []int{2, 3}}} {
		c := api.Circuit{Max: 3, Inputs: []int{2, 4}, Ands: []api.And{{Lit: 6, A: x.a, B: x.b}}}
		checkOf(t, c, []int{6}, x.want)
		checkOf(t, c, []int{7}, x.want)
	}
}

func TestP1001OfRing(t *testing.T) {
	// Each Latch hangs on the next one, the last one on the first one; one beside them on the ring, on which nothing of it hangs.
	c := api.Circuit{Max: 70}
	var all []int
	for v := 1; v <= 60; v++ {
		c.Latches = append(c.Latches, api.Latch{Lit: 2 * v, Next: 2*(v%60+1) + v%2})
		all = append(all, v)
	}
	c.Latches = append(c.Latches, api.Latch{Lit: 140, Next: 60})
	for v := range 60 {
		checkOf(t, c, []int{2*v + 2}, all)
	}
	checkOf(t, c, []int{141}, append(all, 70))
	// A Reset that is the Latch's own literal, or another one, is nothing on which it hangs.
	for _, reset := range []int{0, 1, 2} {
		checkOf(t, api.Circuit{Max: 2, Inputs: []int{4}, Latches: []api.Latch{{Lit: 2, Next: 4, Reset: reset}}}, []int{3}, []int{1, 2})
	}
}

func TestP1001OfWrongLiterals(t *testing.T) {
	none := []int{10, 11, 16, 17, 26, 27, 28, 34, 38, 39, 40, 41}
	outside := []int{42, 43, 44, 1000, 1 << 32, 1<<32 + 2, math.MaxInt, math.MaxInt - 1, -1, -2, -3, -14, -1 << 32, math.MinInt, math.MinInt + 1}
	for _, l := range append(none, outside...) {
		for _, lits := range [][]int{{l}, {l, 14}, {14, l}, {20, l, 30}, {0, 1, l}, {l, l}} {
			if got, e := Of(small(), lits); e != api.ErrArg || len(got) > 0 {
				t.Errorf("P1001: Of %v: %v, %d; want ErrArg", lits, got, e)
			}
		}
	}
	for _, l := range []int{2, 3, -1, -2, math.MaxInt, math.MinInt} {
		if got, e := Of(api.Circuit{}, []int{l}); e != api.ErrArg || len(got) > 0 {
			t.Errorf("P1001: Of %d of nothing: %v, %d; want ErrArg", l, got, e)
		}
	}
	if got, e := Of(api.Circuit{Max: 1}, []int{2}); e != api.ErrArg || len(got) > 0 {
		t.Errorf("P1001: Of a variable that is none: %v, %d; want ErrArg", got, e)
	}
}

func TestP1001Faults(t *testing.T) {
	for _, x := range []struct {
		c api.Circuit
		e api.Errno
	}{
		{api.Circuit{Max: math.MaxInt, Bads: []int{0}}, api.ErrLong},
		{api.Circuit{Max: -1, Inputs: make([]int, api.MaxPorts+1)}, api.ErrLong},
		{api.Circuit{Ands: make([]api.And, api.MaxAnds+1), Bads: []int{0}}, api.ErrLong},
		{api.Circuit{Max: -1, Bads: []int{0}}, api.ErrArg},
		{api.Circuit{Max: math.MinInt, Bads: []int{0}}, api.ErrArg},
		{api.Circuit{Bads: []int{0}, Constraints: []int{math.MaxInt}}, api.ErrArg},
		{api.Circuit{Max: 1, Bads: []int{0}, Latches: []api.Latch{{Lit: 2, Next: -1}}}, api.ErrArg},
		{api.Circuit{Bads: []int{0}, Names: []api.Symbol{{Kind: 'b'}}}, api.ErrArg},
		{api.Circuit{Max: 1, Bads: []int{0}, Inputs: []int{2}, Ands: []api.And{{Lit: 2}}}, api.ErrTwice},
		{api.Circuit{Max: 2, Bads: []int{0}, Inputs: []int{4}, Outputs: []int{2}}, api.ErrNone},
		{api.Circuit{Max: 1, Bads: []int{0}, Ands: []api.And{{Lit: 2, A: 3, B: 0}}}, api.ErrCycle},
	} {
		if e := aig.Check(x.c); e != x.e {
			t.Errorf("P1001: aig.Check of %.300v tells %d", x.c, e)
		}
		// The circuit's error is told ahead of those of the other arguments.
		for _, lits := range [][]int{nil, {0}, {-1}, {math.MaxInt}} {
			for _, bad := range []int{0, -1, 1, math.MaxInt} {
				checkRefused(t, "no circuit", x.c, lits, bad, x.e)
			}
		}
	}
}

func TestP1001CutBads(t *testing.T) {
	c := small()
	ands := c.Ands[:3]
	for bad, want := range []cut{
		{c: api.Circuit{Inputs: []int{14, 6}, Latches: c.Latches[:1], Ands: ands}, inputs: []int{0, 1}, latches: []int{0}},
		{c: api.Circuit{Inputs: []int{6}, Latches: c.Latches[2:4]}, inputs: []int{1}, latches: []int{2, 3}},
		{c: api.Circuit{Latches: c.Latches[1:2], Ands: c.Ands[3:4]}, latches: []int{1}},
		{},
		{c: api.Circuit{Latches: c.Latches[4:]}, latches: []int{4}},
		{c: api.Circuit{Inputs: []int{22}}, inputs: []int{2}},
		{c: api.Circuit{Inputs: []int{14, 6}, Latches: []api.Latch{c.Latches[0], c.Latches[2], c.Latches[3]}, Ands: append(slices.Clone(ands), c.Ands[4])}, inputs: []int{0, 1}, latches: []int{0, 2, 3}},
		{c: api.Circuit{Inputs: []int{14, 6}, Latches: c.Latches[:1], Ands: ands}, inputs: []int{0, 1}, latches: []int{0}},
	} {
		want.c.Max, want.c.Bads = 20, []int{c.Bads[bad]}
		checkCut(t, c, bad, want)
	}
}

func TestP1001CutConstraints(t *testing.T) {
	c := small()
	for _, x := range []struct {
		bad         int
		constraints []int
		want        cut
	}{
		{3, []int{0}, cut{}},
		{3, []int{1, 0, 1}, cut{}},
		{3, []int{23}, cut{c: api.Circuit{Inputs: []int{22}}, inputs: []int{2}}},
		{3, []int{4, 5, 4}, cut{c: api.Circuit{Latches: c.Latches[1:2]}, latches: []int{1}}},
		{3, []int{22, 8}, cut{c: api.Circuit{Inputs: []int{6, 22}, Latches: c.Latches[2:3]}, inputs: []int{1, 2}, latches: []int{2}}},
		{1, []int{36, 3}, cut{c: api.Circuit{Inputs: []int{6}, Latches: c.Latches[1:], Ands: c.Ands[3:4]}, inputs: []int{1}, latches: []int{1, 2, 3, 4}}},
		{5, []int{14, 12}, cut{c: api.Circuit{Inputs: []int{14, 6, 22}, Latches: c.Latches[:1], Ands: c.Ands[:3]}, inputs: []int{0, 1, 2}, latches: []int{0}}},
	} {
		c.Constraints = x.constraints
		x.want.c.Max, x.want.c.Bads, x.want.c.Constraints = 20, []int{c.Bads[x.bad]}, x.constraints
		checkCut(t, c, x.bad, x.want)
	}
}

func TestP1001CutOutputs(t *testing.T) {
	c := small()
	c.Bads, c.Names = nil, nil
	checkCut(t, c, 0, cut{c: api.Circuit{Max: 20, Bads: []int{0}}})
	checkCut(t, c, 1, cut{c: api.Circuit{Max: 20, Inputs: []int{22}, Bads: []int{23}}, inputs: []int{2}})
	checkCut(t, c, 2, cut{c: api.Circuit{Max: 20, Inputs: []int{6}, Latches: c.Latches[2:3], Bads: []int{8}}, inputs: []int{1}, latches: []int{2}})
	checkCut(t, c, 3, cut{e: api.ErrArg})
	// With a bad, Outputs are none.
	c.Bads = []int{37}
	checkCut(t, c, 0, cut{c: api.Circuit{Max: 20, Latches: c.Latches[4:], Bads: []int{37}}, latches: []int{4}})
	checkCut(t, c, 1, cut{e: api.ErrArg})
}

func TestP1001CutWrongBads(t *testing.T) {
	far := []int{-1, -2, -8, 1000, 1 << 32, 1 << 60, -1 << 32, math.MaxInt, math.MinInt}
	for _, bad := range append(far, 8, 9) {
		checkCut(t, small(), bad, cut{e: api.ErrArg})
	}
	for _, bad := range append(far, 0, 1) {
		checkCut(t, api.Circuit{}, bad, cut{e: api.ErrArg})
		checkCut(t, api.Circuit{Max: 1, Inputs: []int{2}, Constraints: []int{2}}, bad, cut{e: api.ErrArg})
	}
	checkCut(t, api.Circuit{Outputs: []int{1}}, 0, cut{c: api.Circuit{Bads: []int{1}}})
}

// chain tells a circuit with as much as may be: each And hangs on the one ahead of it, and on an Input.
func chain() api.Circuit {
	c := api.Circuit{Max: api.MaxVar}
	for i := range api.MaxPorts {
		lit := 2*api.MaxVar - 2*i
		c.Inputs = append(c.Inputs, 2+2*i)
		c.Latches = append(c.Latches, api.Latch{Lit: lit, Next: lit + 1, Reset: []int{0, 1, lit}[i%3]})
		c.Outputs = append(c.Outputs, 2+2*i)
		c.Bads = append(c.Bads, 200+2*i)
	}
	for i := range api.MaxAnds {
		c.Ands = append(c.Ands, api.And{Lit: 200 + 2*i, A: 198 + 2*i, B: 2 + 2*(i%api.MaxPorts)})
	}
	c.Ands[0].A = 1
	c.Bads[0] = c.Ands[api.MaxAnds-1].Lit
	return c
}

// upTo tells the numbers from one to another one.
func upTo(least, most int) []int {
	var list []int
	for n := least; n <= most; n++ {
		list = append(list, n)
	}
	return list
}

func TestP1001Chain(t *testing.T) {
	c := chain()
	for range 2 {
		checkOf(t, c, []int{c.Bads[0]}, append(upTo(1, 64), upTo(100, 2099)...))
		checkOf(t, c, []int{220, 2 * api.MaxVar}, append(append(upTo(1, 11), upTo(100, 110)...), api.MaxVar))
		got := cutOf(c, 10)
		if got.e != api.OK || len(got.c.Ands) != 11 || len(got.c.Latches)+len(got.latches) > 0 || !slices.Equal(got.inputs, upTo(0, 10)) || !slices.Equal(got.c.Inputs, c.Inputs[:11]) {
			t.Errorf("P1001: Cut of a chain: %v", got)
		}
		whole := cutOf(c, 0)
		if whole.e != api.OK || !slices.Equal(whole.c.Ands, c.Ands) || !slices.Equal(whole.c.Inputs, c.Inputs) || len(whole.c.Latches) > 0 {
			t.Errorf("P1001: Cut of a whole chain: %.300v", whole)
		}
		slices.Reverse(c.Ands)
	}
	c.Constraints = make([]int, api.MaxPorts)
	for i := range c.Constraints {
		c.Constraints[i] = c.Latches[i].Lit + i%2
	}
	if got := cutOf(c, 10); got.e != api.OK || !slices.Equal(got.c.Latches, c.Latches) || !slices.Equal(got.latches, upTo(0, 63)) || !slices.Equal(got.c.Constraints, c.Constraints) {
		t.Errorf("P1001: Cut with Constraints of all Latches: %.300v", got)
	}
}
