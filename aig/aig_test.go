package aig

import (
	"math"
	"slices"
	"strings"
	"testing"
	"unsafe"

	"retorter/api"
)

// small tells a circuit that has something of each kind, its Ands not in turn, with variables that are none.
func small() api.Circuit {
	return api.Circuit{
		Max:         20,
		Inputs:      []int{14, 6},
		Latches:     []api.Latch{{Lit: 30, Next: 21, Reset: 30}, {Lit: 4, Next: 1, Reset: 1}, {Lit: 8, Next: 6}},
		Outputs:     []int{0, 23},
		Bads:        []int{20, 31},
		Constraints: []int{1, 15},
		Ands:        []api.And{{Lit: 20, A: 22, B: 25}, {Lit: 24, A: 6, B: 22}, {Lit: 22, A: 7, B: 30}, {Lit: 2, A: 0, B: 5}},
		Names:       []api.Symbol{{Kind: 'l', Index: 2, Name: "z"}, {Kind: 'i', Index: 1, Name: "a b"}, {Kind: 'c', Index: 0, Name: "\xff"}},
	}
}

// smallNormal is the Normal of small, worked out by hand: 14, 6, 30, 4, 8 become 1 to 5; the Ands 22, 24, 20, 2 become 6 to 9.
func smallNormal() api.Circuit {
	return api.Circuit{
		Max:         9,
		Inputs:      []int{2, 4},
		Latches:     []api.Latch{{Lit: 6, Next: 17, Reset: 6}, {Lit: 8, Next: 1, Reset: 1}, {Lit: 10, Next: 4}},
		Outputs:     []int{0, 13},
		Bads:        []int{16, 7},
		Constraints: []int{1, 3},
		Ands:        []api.And{{Lit: 12, A: 6, B: 5}, {Lit: 14, A: 12, B: 4}, {Lit: 16, A: 15, B: 12}, {Lit: 18, A: 9, B: 0}},
		Names:       []api.Symbol{{Kind: 'l', Index: 2, Name: "z"}, {Kind: 'i', Index: 1, Name: "a b"}, {Kind: 'c', Index: 0, Name: "\xff"}},
	}
}

// full tells a circuit that has as much of everything as the limits allow: each And hangs on the one ahead of it.
func full() api.Circuit {
	c := api.Circuit{Max: api.MaxVar}
	for i := range api.MaxPorts {
		c.Inputs = append(c.Inputs, 2+2*i)
		lit := 2*api.MaxVar - 2*i
		c.Latches = append(c.Latches, api.Latch{Lit: lit, Next: lit + 1, Reset: lit})
		c.Outputs = append(c.Outputs, i%2)
		c.Bads = append(c.Bads, 2+2*i)
		c.Constraints = append(c.Constraints, lit)
		for _, kind := range []byte("ilobc") {
			c.Names = append(c.Names, api.Symbol{Kind: kind, Index: i, Name: strings.Repeat("n", api.MaxName)})
		}
	}
	for i := range api.MaxAnds {
		c.Ands = append(c.Ands, api.And{Lit: 200 + 2*i, A: 198 + 2*i, B: 199 + 2*i})
	}
	c.Ands[0].A, c.Ands[0].B = 2, 2*api.MaxVar+1
	return c
}

// clone tells a circuit in memory of its own.
func clone(c api.Circuit) api.Circuit {
	c.Inputs = slices.Clone(c.Inputs)
	c.Latches = slices.Clone(c.Latches)
	c.Outputs = slices.Clone(c.Outputs)
	c.Bads = slices.Clone(c.Bads)
	c.Constraints = slices.Clone(c.Constraints)
	c.Ands = slices.Clone(c.Ands)
	c.Names = slices.Clone(c.Names)
	return c
}

// circuit is one that is turned by each case of a test.
type circuit = api.Circuit

// turn is a case: what is turned, and what Check tells then.
type turn struct {
	name string
	turn func(c *circuit)
	want api.Errno
}

// checkTurns asks Check and Normal of a circuit that each case turns.
func checkTurns(t *testing.T, of func() circuit, turns []turn) {
	t.Helper()
	for _, x := range turns {
		c := of()
		x.turn(&c)
		checkCheck(t, x.name, c, x.want)
	}
}

func checkCheck(t *testing.T, name string, c circuit, want api.Errno) {
	t.Helper()
	if e := Check(c); e != want {
		t.Errorf("P401: %s: %d, want %d", name, e, want)
	}
	n, e := Normal(c)
	if e != want {
		t.Errorf("P402: Normal: %s: %d, want %d", name, e, want)
	}
	if want != api.OK && (n.Max != 0 || len(n.Inputs)+len(n.Latches)+len(n.Outputs)+len(n.Bads)+len(n.Constraints)+len(n.Ands)+len(n.Names) > 0) {
		t.Errorf("P402: Normal: %s: something beside an error: %v", name, n)
	}
}

func TestP401Right(t *testing.T) {
	checkCheck(t, "zero", circuit{}, api.OK)
	checkCheck(t, "empty lists", circuit{Inputs: []int{}, Ands: []api.And{}, Names: []api.Symbol{}}, api.OK)
	checkCheck(t, "constants alone", circuit{Outputs: []int{0, 1}, Bads: []int{1}, Constraints: []int{1, 1, 0}}, api.OK)
	checkCheck(t, "small", small(), api.OK)
	checkCheck(t, "small, normal", smallNormal(), api.OK)
	checkCheck(t, "full", full(), api.OK)
	checkTurns(t, small, []turn{
		{"Max is the least that may be", func(c *circuit) { c.Max = 15 }, api.OK},
		{"Max is the greatest one", func(c *circuit) { c.Max = api.MaxVar }, api.OK},
		{"both sides one and the same", func(c *circuit) { c.Ands[0] = api.And{Lit: 20, A: 25, B: 25} }, api.OK},
		{"sides that are opposites", func(c *circuit) { c.Ands[0] = api.And{Lit: 20, A: 25, B: 24} }, api.OK},
		{"an And of a constant", func(c *circuit) { c.Ands[0] = api.And{Lit: 20, A: 1, B: 0} }, api.OK},
		{"a Latch that stays", func(c *circuit) { c.Latches[0].Next = 30 }, api.OK},
		{"a Latch over an And of itself", func(c *circuit) { c.Latches[0].Next = 22 }, api.OK},
		{"a literal often", func(c *circuit) { c.Bads = []int{20, 20, 20}; c.Outputs = []int{20, 20} }, api.OK},
		{"no Names", func(c *circuit) { c.Names = nil }, api.OK},
		{"the same Name of two", func(c *circuit) { c.Names[0].Name = c.Names[1].Name }, api.OK},
		{"the same Index of two Kinds", func(c *circuit) { c.Names[0].Index = 1 }, api.OK},
	})
}

func TestP401Long(t *testing.T) {
	checkTurns(t, full, []turn{
		{"Max", func(c *circuit) { c.Max++ }, api.ErrLong},
		{"Max, far above", func(c *circuit) { c.Max = math.MaxInt }, api.ErrLong},
		{"Inputs", func(c *circuit) { c.Inputs = append(c.Inputs, 190) }, api.ErrLong},
		{"Latches", func(c *circuit) { c.Latches = append(c.Latches, api.Latch{Lit: 190}) }, api.ErrLong},
		{"Outputs", func(c *circuit) { c.Outputs = append(c.Outputs, 0) }, api.ErrLong},
		{"Bads", func(c *circuit) { c.Bads = append(c.Bads, 0) }, api.ErrLong},
		{"Constraints", func(c *circuit) { c.Constraints = append(c.Constraints, 0) }, api.ErrLong},
		{"Ands", func(c *circuit) { c.Ands = append(c.Ands, api.And{Lit: 190}) }, api.ErrLong},
		{"Names", func(c *circuit) { c.Names = append(c.Names, c.Names[0]) }, api.ErrLong},
		{"a Name without anything", func(c *circuit) { *c = circuit{Names: c.Names[:1]} }, api.ErrLong},
		{"more Names than ports, with Ands", func(c *circuit) { c.Outputs = nil }, api.ErrLong},
		{"as many Names as ports", func(c *circuit) { c.Outputs, c.Names = nil, c.Names[:4*api.MaxPorts] }, api.ErrArg},
	})
	checkTurns(t, small, []turn{
		{"ahead of ErrArg", func(c *circuit) { c.Max, c.Bads = -1, make([]int, 65) }, api.ErrLong},
		{"ahead of ErrArg, by Max", func(c *circuit) { c.Max, c.Inputs[0] = api.MaxVar+1, -1 }, api.ErrLong},
		{"ahead of ErrArg, by Names", func(c *circuit) { c.Max, c.Names = math.MinInt, make([]api.Symbol, 12) }, api.ErrLong},
		{"ahead of ErrTwice", func(c *circuit) { c.Inputs = slices.Repeat([]int{14}, 65) }, api.ErrLong},
		{"ahead of ErrNone", func(c *circuit) { c.Outputs = slices.Repeat([]int{40}, 65) }, api.ErrLong},
		{"ahead of ErrCycle", func(c *circuit) { c.Max, c.Ands[2].A = 5001, 24 }, api.ErrLong},
	})
}

func TestP401Max(t *testing.T) {
	for _, most := range []int{-1, -2, -5000, math.MinInt, math.MinInt / 2, math.MinInt/2 + 1} {
		checkCheck(t, "nothing but a Max below 0", circuit{Max: most}, api.ErrArg)
		c := small()
		c.Max = most
		checkCheck(t, "small with a Max below 0", c, api.ErrArg)
	}
	for most := range 15 {
		c := small()
		c.Max = most
		checkCheck(t, "small with too small a Max", c, api.ErrArg)
	}
	checkCheck(t, "a literal above 1", circuit{Outputs: []int{2}}, api.ErrArg)
}

// slots are the places of small where a literal stands that things hang on.
func slots(c *circuit) []*int {
	return []*int{&c.Latches[0].Next, &c.Latches[2].Next, &c.Outputs[0], &c.Outputs[1], &c.Bads[0], &c.Bads[1], &c.Constraints[0], &c.Constraints[1], &c.Ands[0].A, &c.Ands[0].B, &c.Ands[3].A, &c.Ands[3].B}
}

// heads are the places of small where a literal stands that is its own.
func heads(c *circuit) []*int {
	return []*int{&c.Inputs[0], &c.Inputs[1], &c.Latches[0].Lit, &c.Latches[2].Lit, &c.Ands[0].Lit, &c.Ands[3].Lit}
}

func TestP401Literals(t *testing.T) {
	wrong := []int{-1, -2, 42, 43, 1 << 32, 1<<32 + 2, 1 << 40, math.MaxInt, math.MaxInt - 1, math.MinInt, math.MinInt + 1}
	for i := range heads(new(small())) {
		for _, l := range append([]int{0, 1, 3, 7, 41}, wrong...) {
			c := small()
			*heads(&c)[i] = l
			checkCheck(t, "a wrong literal of its own", c, api.ErrArg)
		}
	}
	for i := range slots(new(small())) {
		for _, l := range wrong {
			c := small()
			*slots(&c)[i] = l
			checkCheck(t, "a wrong literal", c, api.ErrArg)
		}
		for _, l := range []int{0, 1, 14, 15, 4, 31} {
			c := small()
			*slots(&c)[i] = l
			checkCheck(t, "a right literal", c, api.OK)
		}
	}
}

func TestP401Reset(t *testing.T) {
	for i := range 3 {
		for _, reset := range []int{-1, 2, 3, 5, 9, 14, 20, 31, 40, 41, 42, math.MaxInt, math.MinInt} {
			c := small()
			c.Latches[i].Reset = reset
			checkCheck(t, "a wrong Reset", c, api.ErrArg)
		}
		c := small()
		for _, reset := range []int{0, 1, c.Latches[i].Lit} {
			c.Latches[i].Reset = reset
			checkCheck(t, "a right Reset", c, api.OK)
		}
		c.Latches[i].Reset = c.Latches[(i+1)%3].Lit
		checkCheck(t, "the literal of another Latch", c, api.ErrArg)
	}
}

func TestP401Names(t *testing.T) {
	for kind := range 256 {
		c := small()
		c.Names = []api.Symbol{{Kind: byte(kind), Index: 0, Name: "x"}}
		want := api.ErrArg
		if strings.Contains("ilobc", string(rune(kind))) {
			want = api.OK
		}
		checkCheck(t, "Kind", c, want)
	}
	for kind, count := range map[byte]int{'i': 2, 'l': 3, 'o': 2, 'b': 2, 'c': 2} {
		for _, index := range []int{-1, 0, count - 1, count, count + 1, 1 << 32, math.MaxInt, math.MinInt} {
			c := small()
			c.Names = []api.Symbol{{Kind: kind, Index: index, Name: "x"}}
			want := api.ErrArg
			if index >= 0 && index < count {
				want = api.OK
			}
			checkCheck(t, "Index", c, want)
		}
	}
	for b := range 256 {
		want := api.OK
		if b < 32 {
			want = api.ErrArg
		}
		for _, name := range []string{string([]byte{byte(b)}), "x" + string([]byte{byte(b)}), string([]byte{byte(b)}) + "x"} {
			c := small()
			c.Names[1].Name = name
			checkCheck(t, "a byte of a Name", c, want)
		}
	}
	checkTurns(t, small, []turn{
		{"an empty Name", func(c *circuit) { c.Names[2].Name = "" }, api.ErrArg},
		{"a Name of 100", func(c *circuit) { c.Names[2].Name = strings.Repeat("x", 100) }, api.OK},
		{"a Name of 101", func(c *circuit) { c.Names[2].Name = strings.Repeat("x", 101) }, api.ErrArg},
		{"a Name of 100 bytes", func(c *circuit) { c.Names[2].Name = strings.Repeat("é", 50) }, api.OK},
		{"a Name of 51 letters, but 102 bytes", func(c *circuit) { c.Names[2].Name = strings.Repeat("é", 51) }, api.ErrArg},
	})
}

func TestP401ArgAheadOfOthers(t *testing.T) {
	checkTurns(t, small, []turn{
		{"of ErrTwice", func(c *circuit) { c.Inputs[1], c.Bads[0] = 14, 99 }, api.ErrArg},
		{"of ErrTwice, by a Name", func(c *circuit) { c.Inputs[1], c.Names[2].Name = 14, "" }, api.ErrArg},
		{"of ErrTwice, of Names", func(c *circuit) { c.Names[1] = c.Names[0]; c.Names[2].Kind = 'a' }, api.ErrArg},
		{"of ErrNone", func(c *circuit) { c.Outputs[0], c.Latches[2].Reset = 40, 3 }, api.ErrArg},
		{"of ErrCycle", func(c *circuit) { c.Ands[2].A, c.Constraints[0] = 24, -1 }, api.ErrArg},
	})
}

func TestP401Twice(t *testing.T) {
	for i := range heads(new(small())) {
		for j := range heads(new(small())) {
			if i == j {
				continue
			}
			c := small()
			*heads(&c)[i] = *heads(&c)[j]
			c.Latches[0].Reset = 0
			checkCheck(t, "a variable that is two", c, api.ErrTwice)
		}
	}
	checkTurns(t, small, []turn{
		{"a Symbol", func(c *circuit) { c.Names[2] = c.Names[0] }, api.ErrTwice},
		{"a Symbol of another Name", func(c *circuit) { c.Names[2] = api.Symbol{Kind: 'l', Index: 2, Name: "y"} }, api.ErrTwice},
		{"side by side", func(c *circuit) { c.Names[1] = c.Names[0] }, api.ErrTwice},
		{"ahead of ErrNone", func(c *circuit) { c.Inputs[1] = 14 }, api.ErrTwice},
		{"ahead of ErrNone, of Names", func(c *circuit) { c.Names[2] = c.Names[0]; c.Bads[0] = 41 }, api.ErrTwice},
		{"ahead of ErrCycle", func(c *circuit) { c.Names[2] = c.Names[0]; c.Ands[2].A = 24 }, api.ErrTwice},
	})
}

func TestP401None(t *testing.T) {
	for i := range slots(new(small())) {
		for _, l := range []int{10, 11, 12, 16, 18, 26, 28, 40, 41} {
			c := small()
			*slots(&c)[i] = l
			checkCheck(t, "a variable that is none", c, api.ErrNone)
		}
	}
	checkTurns(t, small, []turn{
		{"of an Input that is gone", func(c *circuit) { c.Inputs = c.Inputs[:1]; c.Names = nil }, api.ErrNone},
		{"of a Latch that is gone", func(c *circuit) { c.Latches = c.Latches[1:]; c.Names = nil }, api.ErrNone},
		{"of an And that is gone", func(c *circuit) { c.Ands = c.Ands[1:] }, api.ErrNone},
		{"ahead of ErrCycle", func(c *circuit) { c.Ands[2].A, c.Latches[2].Next = 24, 40 }, api.ErrNone},
	})
}

func TestP401Cycle(t *testing.T) {
	checkTurns(t, small, []turn{
		{"on itself, by A", func(c *circuit) { c.Ands[3].A = 2 }, api.ErrCycle},
		{"on itself, by B, turned over", func(c *circuit) { c.Ands[3].B = 3 }, api.ErrCycle},
		{"on itself by both", func(c *circuit) { c.Ands[3] = api.And{Lit: 2, A: 2, B: 3} }, api.ErrCycle},
		{"two on each other", func(c *circuit) { c.Ands[2].A = 24 }, api.ErrCycle},
		{"three in a ring", func(c *circuit) { c.Ands[2].B = 21 }, api.ErrCycle},
		{"with false beside it", func(c *circuit) { c.Ands[3] = api.And{Lit: 2, A: 0, B: 2} }, api.ErrCycle},
		{"on itself, asked by nobody", func(c *circuit) { *c = circuit{Max: 1, Ands: []api.And{{Lit: 2, A: 2}}} }, api.ErrCycle},
	})
	c := full()
	c.Ands[0].A = c.Ands[api.MaxAnds-1].Lit
	checkCheck(t, "a ring of all Ands", c, api.ErrCycle)
	slices.Reverse(c.Ands)
	checkCheck(t, "a ring of all Ands, turned round", c, api.ErrCycle)
}

// lot is a row of numbers by a plain rule, the same ones each time.
type lot uint64

// next tells one below n.
func (l *lot) next(n int) int {
	*l = *l*6364136223846793005 + 1442695040888963407
	return int(uint64(*l)>>33) % n
}

// shuffled tells 1 to n in an order by the lot.
func (l *lot) shuffled(n int) []int {
	list := make([]int, n)
	for i := range list {
		list[i] = i + 1
	}
	for i := n - 1; i > 0; i-- {
		j := l.next(i + 1)
		list[i], list[j] = list[j], list[i]
	}
	return list
}

// circuit tells one of few variables; of those that are wild an And may hang on any literal.
func (l *lot) circuit(wild bool) api.Circuit {
	inputs, latches, ands := l.next(4), l.next(4), l.next(9)
	n := inputs + latches + ands
	vars := l.shuffled(n + l.next(4))
	c := api.Circuit{Max: len(vars)}
	any := func(behind int) int {
		if behind = l.next(behind + 1); behind > 0 {
			return 2*vars[behind-1] + l.next(2)
		}
		return l.next(2)
	}
	for i := range inputs {
		c.Inputs = append(c.Inputs, 2*vars[i])
	}
	for i := range latches {
		lit := 2 * vars[inputs+i]
		c.Latches = append(c.Latches, api.Latch{Lit: lit, Next: any(n), Reset: []int{0, 1, lit}[l.next(3)]})
	}
	for i := inputs + latches; i < n; i++ {
		behind := i
		if wild {
			behind = n
		}
		c.Ands = append(c.Ands, api.And{Lit: 2 * vars[i], A: any(behind), B: any(behind)})
	}
	c.Ands = l.mixed(c.Ands)
	for range l.next(3) {
		c.Outputs = append(c.Outputs, any(n))
		c.Bads = append(c.Bads, any(n))
		c.Constraints = append(c.Constraints, any(n))
	}
	return c
}

// mixed tells Ands in an order by the lot.
func (l *lot) mixed(ands []api.And) []api.And {
	list := make([]api.And, len(ands))
	for i, at := range l.shuffled(len(ands)) {
		list[i] = ands[at-1]
	}
	return list
}

// byHandCycle is P401's ErrCycle told again: on which Ands does each one hang, over so many steps as there are Ands?
func byHandCycle(c api.Circuit) bool {
	for _, a := range c.Ands {
		reached := map[int]int{}
		for range c.Ands {
			for _, other := range c.Ands {
				if other.Lit == a.Lit || reached[other.Lit] > 0 {
					reached[other.A&^1]++
					reached[other.B&^1]++
				}
			}
		}
		if reached[a.Lit] > 0 {
			return true
		}
	}
	return false
}

func TestP401CycleOfManyCircuits(t *testing.T) {
	l := lot(4)
	rings := 0
	for range 5000 {
		c := l.circuit(true)
		want := api.OK
		if byHandCycle(c) {
			want = api.ErrCycle
			rings++
		}
		checkCheck(t, "a circuit by lot", c, want)
	}
	if rings < 500 || rings > 4500 {
		t.Errorf("P401: %d rings of 5000 are no fair lot", rings)
	}
}

func checkNormal(t *testing.T, c, want api.Circuit) {
	t.Helper()
	if got, e := Normal(c); e != api.OK || !alike(got, want) {
		t.Errorf("P402: Normal of %v is\n%v, %d; want\n%v", c, got, e, want)
	}
}

// alike is P402's Same told again, by the parts.
func alike(a, b api.Circuit) bool {
	return a.Max == b.Max && slices.Equal(a.Inputs, b.Inputs) && slices.Equal(a.Latches, b.Latches) && slices.Equal(a.Outputs, b.Outputs) && slices.Equal(a.Bads, b.Bads) && slices.Equal(a.Constraints, b.Constraints) && slices.Equal(a.Ands, b.Ands) && slices.Equal(a.Names, b.Names)
}

func TestP402Normal(t *testing.T) {
	checkNormal(t, api.Circuit{}, api.Circuit{})
	checkNormal(t, api.Circuit{Max: 77}, api.Circuit{})
	checkNormal(t, api.Circuit{Max: 9, Outputs: []int{1, 0}, Names: []api.Symbol{{Kind: 'o', Index: 1, Name: "x"}}}, api.Circuit{Outputs: []int{1, 0}, Names: []api.Symbol{{Kind: 'o', Index: 1, Name: "x"}}})
	checkNormal(t, small(), smallNormal())
	checkNormal(t, smallNormal(), smallNormal())
}

func TestP402NormalOrder(t *testing.T) {
	// The last one sets the first one free, which goes ahead of those behind it that were free all the time.
	checkNormal(t,
		api.Circuit{Max: 5, Inputs: []int{2}, Ands: []api.And{{Lit: 4, A: 6, B: 2}, {Lit: 6, A: 2, B: 3}, {Lit: 8, A: 2, B: 2}, {Lit: 10, A: 3, B: 4}}},
		api.Circuit{Max: 5, Inputs: []int{2}, Ands: []api.And{{Lit: 4, A: 3, B: 2}, {Lit: 6, A: 4, B: 2}, {Lit: 8, A: 2, B: 2}, {Lit: 10, A: 6, B: 3}}})
	// Two wait for one: the first one in the circuit's order is next, not the one of the lesser variable.
	checkNormal(t,
		api.Circuit{Max: 4, Inputs: []int{2}, Ands: []api.And{{Lit: 8, A: 4, B: 1}, {Lit: 6, A: 5, B: 5}, {Lit: 4, A: 0, B: 2}}},
		api.Circuit{Max: 4, Inputs: []int{2}, Ands: []api.And{{Lit: 4, A: 2, B: 0}, {Lit: 6, A: 4, B: 1}, {Lit: 8, A: 5, B: 5}}})
	// One that waits for two others by both sides is not taken between them.
	checkNormal(t,
		api.Circuit{Max: 4, Inputs: []int{8}, Ands: []api.And{{Lit: 2, A: 4, B: 7}, {Lit: 4, A: 8, B: 8}, {Lit: 6, A: 9, B: 9}}},
		api.Circuit{Max: 4, Inputs: []int{2}, Ands: []api.And{{Lit: 4, A: 2, B: 2}, {Lit: 6, A: 3, B: 3}, {Lit: 8, A: 7, B: 4}}})
	// The sides are held against each other by what they become.
	checkNormal(t,
		api.Circuit{Max: 3, Inputs: []int{6, 2}, Ands: []api.And{{Lit: 4, A: 6, B: 2}}},
		api.Circuit{Max: 3, Inputs: []int{2, 4}, Ands: []api.And{{Lit: 6, A: 4, B: 2}}})
}

func TestP402NormalLong(t *testing.T) {
	c := full()
	want := clone(c)
	want.Max = 2*api.MaxPorts + api.MaxAnds
	first := 2 * (2*api.MaxPorts + 1)
	for i := range api.MaxPorts {
		lit := 2 * (api.MaxPorts + 1 + i)
		want.Latches[i] = api.Latch{Lit: lit, Next: lit + 1, Reset: lit}
		want.Constraints[i] = lit
	}
	for i := range want.Ands {
		lit := first + 2*i
		want.Ands[i] = api.And{Lit: lit, A: lit - 1, B: lit - 2}
	}
	want.Ands[0].A, want.Ands[0].B = 2*(api.MaxPorts+1)+1, 2
	checkNormal(t, c, want)
	slices.Reverse(c.Ands)
	checkNormal(t, c, want)
}

// byHandNormal is P402's Normal told again, each And looked for from the first one on.
func byHandNormal(c api.Circuit) api.Circuit {
	name := map[int]int{0: 0}
	isAnd := map[int]int{}
	for _, l := range c.Inputs {
		name[l] = 2 * len(name)
	}
	for _, l := range c.Latches {
		name[l.Lit] = 2 * len(name)
	}
	for _, a := range c.Ands {
		isAnd[a.Lit]++
	}
	lit := func(l int) int { return name[l&^1] + l&1 }
	free := func(l int) bool { _, ok := name[l&^1]; return ok || isAnd[l&^1] == 0 }
	n := api.Circuit{Max: len(c.Inputs) + len(c.Latches) + len(c.Ands), Names: c.Names}
	for len(n.Ands) < len(c.Ands) {
		at := slices.IndexFunc(c.Ands, func(a api.And) bool {
			_, taken := name[a.Lit]
			return !taken && free(a.A) && free(a.B)
		})
		a := c.Ands[at]
		name[a.Lit] = 2 * len(name)
		n.Ands = append(n.Ands, api.And{Lit: lit(a.Lit), A: max(lit(a.A), lit(a.B)), B: min(lit(a.A), lit(a.B))})
	}
	for _, l := range c.Latches {
		n.Latches = append(n.Latches, api.Latch{Lit: lit(l.Lit), Next: lit(l.Next), Reset: lit(l.Reset)})
	}
	for _, x := range []struct {
		from []int
		to   *[]int
	}{{c.Inputs, &n.Inputs}, {c.Outputs, &n.Outputs}, {c.Bads, &n.Bads}, {c.Constraints, &n.Constraints}} {
		for _, l := range x.from {
			*x.to = append(*x.to, lit(l))
		}
	}
	return n
}

func TestP402NormalOfManyCircuits(t *testing.T) {
	l := lot(2)
	for range 5000 {
		c := l.circuit(false)
		checkNormal(t, c, byHandNormal(c))
	}
}

func TestOrderIsTheOneOfNormal(t *testing.T) {
	l := lot(6)
	for _, wild := range []bool{false, true} {
		for range 2000 {
			c := l.circuit(wild)
			order, e := Order(c)
			n, f := Normal(c)
			if e != f || len(order) != len(n.Ands) {
				t.Errorf("P402: Order of %v is %v, %d; Normal tells %d Ands, %d", c, order, e, len(n.Ands), f)
				continue
			}
			// Taken in that order, they are in turn already, and become what they became.
			inTurn := clone(c)
			for i, place := range order {
				inTurn.Ands[i] = c.Ands[place]
			}
			if again, _ := Order(inTurn); e == api.OK && !slices.IsSorted(again) {
				t.Errorf("P402: Order of %v is %v, and not in turn", c, order)
			}
			if e == api.OK {
				checkNormal(t, inTurn, n)
			}
		}
	}
	for _, c := range []api.Circuit{{Max: -1}, {Max: 1, Inputs: []int{2, 2}}, {Max: 1, Outputs: []int{2}}, {Max: 2, Ands: []api.And{{Lit: 4}, {Lit: 2, A: 2}}}} {
		if order, e := Order(c); len(order) > 0 || e != Check(c) || e == api.OK {
			t.Errorf("P402: Order of %v is %v, %d", c, order, e)
		}
	}
}

func TestP402Vars(t *testing.T) {
	for _, x := range []struct {
		c    api.Circuit
		want int
	}{
		{api.Circuit{}, 0},
		{small(), 9},
		{full(), 2*api.MaxPorts + api.MaxAnds},
		{api.Circuit{Max: 7, Outputs: []int{1}, Bads: []int{1}, Constraints: []int{1}, Names: make([]api.Symbol, 2)}, 0},
		{api.Circuit{Inputs: []int{2}}, 1},
		{api.Circuit{Latches: make([]api.Latch, 3)}, 3},
		{api.Circuit{Max: -4, Inputs: make([]int, 70), Ands: make([]api.And, 2001)}, 2071},
	} {
		if got := Vars(x.c); got != x.want {
			t.Errorf("P402: Vars of %v is %d, want %d", x.c, got, x.want)
		}
	}
}

func TestP402Same(t *testing.T) {
	same := func(a, b api.Circuit, want bool) {
		t.Helper()
		if Same(a, b) != want || Same(b, a) != want {
			t.Errorf("P402: Same of %v and %v is not %v", a, b, want)
		}
	}
	same(api.Circuit{}, api.Circuit{Inputs: []int{}, Latches: []api.Latch{}, Outputs: []int{}, Bads: []int{}, Constraints: []int{}, Ands: []api.And{}, Names: []api.Symbol{}}, true)
	same(small(), small(), true)
	same(small(), smallNormal(), false)
	same(small(), api.Circuit{}, false)
	for _, turn := range []func(c *circuit){
		func(c *circuit) { c.Max-- },
		func(c *circuit) { c.Inputs[1] = 0 },
		func(c *circuit) { c.Inputs[0], c.Inputs[1] = c.Inputs[1], c.Inputs[0] },
		func(c *circuit) { c.Inputs = c.Inputs[:1] },
		func(c *circuit) { c.Latches[2].Lit++ },
		func(c *circuit) { c.Latches[2].Next++ },
		func(c *circuit) { c.Latches[2].Reset++ },
		func(c *circuit) { c.Latches = c.Latches[1:] },
		func(c *circuit) { c.Outputs[1]++ },
		func(c *circuit) { c.Outputs = nil },
		func(c *circuit) { c.Bads[0]++ },
		func(c *circuit) { c.Bads = append(c.Bads, 0) },
		func(c *circuit) { c.Constraints[0]-- },
		func(c *circuit) { c.Constraints = nil },
		func(c *circuit) { c.Outputs, c.Bads = c.Bads, c.Outputs },
		func(c *circuit) { c.Ands[3].Lit++ },
		func(c *circuit) { c.Ands[3].A++ },
		func(c *circuit) { c.Ands[3].B++ },
		func(c *circuit) { c.Ands[0], c.Ands[1] = c.Ands[1], c.Ands[0] },
		func(c *circuit) { c.Ands = c.Ands[:3] },
		func(c *circuit) { c.Names[0].Kind = 'x' },
		func(c *circuit) { c.Names[0].Index-- },
		func(c *circuit) { c.Names[0].Name += "z" },
		func(c *circuit) { c.Names[0], c.Names[1] = c.Names[1], c.Names[0] },
		func(c *circuit) { c.Names = nil },
	} {
		c := small()
		turn(&c)
		same(c, small(), false)
		same(c, clone(c), true)
	}
	// What is no circuit is held against another one all the same.
	same(api.Circuit{Max: -1, Inputs: []int{-5}}, api.Circuit{Max: -1, Inputs: []int{-5}}, true)
	same(api.Circuit{Max: math.MinInt}, api.Circuit{Max: math.MaxInt}, false)
}

func TestP402Bads(t *testing.T) {
	for _, x := range []struct {
		c    api.Circuit
		want []int
	}{
		{api.Circuit{}, nil},
		{small(), []int{20, 31}},
		{api.Circuit{Outputs: []int{3, 3, 1}}, []int{3, 3, 1}},
		{api.Circuit{Outputs: []int{3, 3, 1}, Bads: []int{}}, []int{3, 3, 1}},
		{api.Circuit{Outputs: []int{3, 3, 1}, Bads: []int{0}}, []int{0}},
		{api.Circuit{Bads: []int{5, 4}}, []int{5, 4}},
		{api.Circuit{Constraints: []int{5, 4}, Inputs: []int{4}}, nil},
		{api.Circuit{Max: -1, Bads: []int{-7, math.MaxInt}}, []int{-7, math.MaxInt}},
	} {
		if got := Bads(x.c); !slices.Equal(got, x.want) {
			t.Errorf("P402: Bads of %v are %v, want %v", x.c, got, x.want)
		}
	}
}

func TestP403NormalOfNormal(t *testing.T) {
	all := []api.Circuit{{}, small(), full()}
	l := lot(3)
	for range 3000 {
		all = append(all, l.circuit(false))
	}
	for _, c := range all {
		n, _ := Normal(c)
		if again, e := Normal(n); e != api.OK || !alike(again, n) {
			t.Errorf("P403: Normal of Normal of %v is %v, %d; Normal is %v", c, again, e, n)
		}
	}
}

// roomy tells a circuit whose lists have spare room, of which each place is marked.
func roomy(c api.Circuit) api.Circuit {
	c.Inputs = marked(c.Inputs, 71)
	c.Latches = marked(c.Latches, api.Latch{Lit: 72})
	c.Outputs = marked(c.Outputs, 73)
	c.Bads = marked(c.Bads, 74)
	c.Constraints = marked(c.Constraints, 75)
	c.Ands = marked(c.Ands, api.And{Lit: 76})
	c.Names = marked(c.Names, api.Symbol{Name: "mark"})
	return c
}

// marked tells a list with spare room behind it.
func marked[T any](l []T, mark T) []T {
	return append(slices.Clip(slices.Clone(l)), mark, mark, mark)[:len(l)]
}

// whole tells a circuit with its lists' spare room.
func whole(c api.Circuit) api.Circuit {
	c.Inputs = c.Inputs[:cap(c.Inputs)]
	c.Latches = c.Latches[:cap(c.Latches)]
	c.Outputs = c.Outputs[:cap(c.Outputs)]
	c.Bads = c.Bads[:cap(c.Bads)]
	c.Constraints = c.Constraints[:cap(c.Constraints)]
	c.Ands = c.Ands[:cap(c.Ands)]
	c.Names = c.Names[:cap(c.Names)]
	return c
}

// spoil writes over all lists of a circuit, their spare room too.
func spoil(c api.Circuit) {
	c = whole(c)
	for _, l := range [][]int{c.Inputs, c.Outputs, c.Bads, c.Constraints} {
		spoilList(l, 99)
	}
	spoilList(c.Latches, api.Latch{Lit: 99})
	spoilList(c.Ands, api.And{Lit: 99})
	spoilList(c.Names, api.Symbol{Name: "spoilt"})
}

func spoilList[T any](l []T, with T) {
	l = l[:cap(l)]
	for i := range l {
		l[i] = with
	}
}

func TestP403ArgumentsStay(t *testing.T) {
	twice := small()
	twice.Inputs[0] = twice.Inputs[1]
	ring := small()
	ring.Ands[2].A = 24
	for _, of := range []api.Circuit{small(), smallNormal(), twice, ring, {}, {Outputs: []int{1}}} {
		c := roomy(of)
		before := clone(whole(c))
		Check(c)
		Normal(c)
		Vars(c)
		Same(c, c)
		Bads(c)
		if !alike(whole(c), before) {
			t.Errorf("P403: %v became %v", before, whole(c))
		}
	}
}

func TestP403AnswersAreNewMemory(t *testing.T) {
	for _, of := range []api.Circuit{small(), smallNormal()} {
		c := roomy(of)
		before := clone(whole(c))
		n, _ := Normal(c)
		want := clone(n)
		spoil(n)
		if !alike(whole(c), before) {
			t.Errorf("P403: Normal shares memory with its argument: %v", whole(c))
		}
		n, _ = Normal(c)
		spoil(c)
		if !alike(n, want) {
			t.Errorf("P403: Normal has kept its argument: %v", n)
		}
	}
	for _, of := range []api.Circuit{{Bads: []int{3, 2}}, {Outputs: []int{3, 2}}} {
		c := roomy(of)
		before := clone(whole(c))
		spoilList(Bads(c), 99)
		if !alike(whole(c), before) {
			t.Errorf("P403: Bads shares memory with its argument: %v", whole(c))
		}
		got := Bads(c)
		spoil(c)
		if !slices.Equal(got, []int{3, 2}) {
			t.Errorf("P403: Bads has kept its argument: %v", got)
		}
	}
}

func TestP403NamesAreNewMemory(t *testing.T) {
	c := small()
	c.Names[0].Name = strings.Clone("a name of its own")
	n, _ := Normal(c)
	if unsafe.StringData(n.Names[0].Name) == unsafe.StringData(c.Names[0].Name) {
		t.Errorf("P403: a Name of Normal is a piece of its argument")
	}
}

func TestP403ListsOfNormalShareNothing(t *testing.T) {
	shared := []int{20, 31, 1}
	c := small()
	c.Outputs, c.Bads, c.Constraints = shared, shared[:2], shared[1:]
	want, _ := Normal(c)
	want = clone(want)
	for i := range 4 {
		n, _ := Normal(c)
		lists := [][]int{n.Inputs, n.Outputs, n.Bads, n.Constraints}
		spoilList(lists[i], 99)
		for j, l := range [][]int{want.Inputs, want.Outputs, want.Bads, want.Constraints} {
			if i != j && !slices.Equal(lists[j], l) {
				t.Errorf("P403: lists %d and %d of an answer share memory", i, j)
			}
		}
	}
}

func TestP403NothingIsKept(t *testing.T) {
	ring := small()
	ring.Ands[2].A = 24
	for range 3 {
		checkNormal(t, small(), smallNormal())
		checkCheck(t, "a ring", ring, api.ErrCycle)
		checkNormal(t, api.Circuit{}, api.Circuit{})
		checkCheck(t, "a wrong Max", api.Circuit{Max: -1}, api.ErrArg)
		if l := Bads(small()); !slices.Equal(l, []int{20, 31}) {
			t.Errorf("P403: Bads are %v", l)
		}
		if l := Bads(api.Circuit{}); len(l) != 0 {
			t.Errorf("P403: Bads are %v", l)
		}
	}
}
