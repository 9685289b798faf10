package printer

import (
	"bytes"
	"fmt"
	"strings"
	"testing"

	"retorter/aig"
	"retorter/api"
	"retorter/ascii"
	"retorter/binary"
)

// small tells a circuit with something of each kind, its variables not in order.
func small() api.Circuit {
	return api.Circuit{
		Max:         20,
		Inputs:      []int{14, 6},
		Latches:     []api.Latch{{Lit: 30, Next: 21, Reset: 30}, {Lit: 4, Next: 1, Reset: 1}, {Lit: 8, Next: 6}},
		Outputs:     []int{0, 23},
		Bads:        []int{20, 31},
		Constraints: []int{1, 15},
		Ands:        []api.And{{Lit: 20, A: 22, B: 25}, {Lit: 24, A: 6, B: 22}, {Lit: 22, A: 7, B: 30}, {Lit: 2, A: 0, B: 5}},
		Names:       []api.Symbol{{Kind: 'l', Index: 2, Name: "z"}, {Kind: 'i', Index: 1, Name: " a  b "}, {Kind: 'c', Index: 0, Name: "\xff"}},
	}
}

const (
	smallAscii = "aag 20 2 3 2 4 2 2\n14\n6\n30 21 30\n4 1 1\n8 6\n0\n23\n20\n31\n1\n15\n20 22 25\n24 6 22\n22 7 30\n2 0 5\nl2 z\ni1  a  b \nc0 \xff\n"
	// Variables 7, 3, 15, 2 and 4 become 1 to 5; then the Ands 11, 12, 10 and 1, taken in that order, 6 to 9.
	smallBinary = "aig 9 2 3 2 4 2 2\n17 6\n1 1\n4\n0\n13\n16\n7\n1\n3\n\x06\x01\x02\x08\x01\x03\x09\x09l2 z\ni1  a  b \nc0 \xff\n"
)

// full tells a circuit that has as much of everything as the limits allow.
func full() api.Circuit {
	c := api.Circuit{Max: api.MaxVar}
	for i := range api.MaxPorts {
		lit := 2*api.MaxVar - 2*i
		c.Inputs = append(c.Inputs, 2+2*i)
		c.Latches = append(c.Latches, api.Latch{Lit: lit, Next: lit + 1, Reset: lit})
		c.Outputs = append(c.Outputs, i%2)
		c.Bads = append(c.Bads, 2+2*i)
		c.Constraints = append(c.Constraints, lit)
		for _, kind := range []byte("ilobc") {
			c.Names = append(c.Names, api.Symbol{Kind: kind, Index: i, Name: strings.Repeat("n", api.MaxName)})
		}
	}
	// Each And hangs on the one behind it, so that Normal turns their order round.
	for i := range api.MaxAnds {
		c.Ands = append(c.Ands, api.And{Lit: 200 + 2*i, A: 2 + i%128, B: 203 + 2*i})
	}
	c.Ands[api.MaxAnds-1].B = 1
	return c
}

// checkWritten holds one of the calls against what it is to tell.
func checkWritten(t *testing.T, name string, write func(c api.Circuit) ([]byte, api.Errno), c api.Circuit, want string, wantErr api.Errno) {
	t.Helper()
	if got, e := write(c); string(got) != want || e != wantErr {
		t.Errorf("P701: %s(%.200s) = %.300q, %d; want %.300q, %d", name, fmt.Sprint(c), got, e, want, wantErr)
	}
}

func TestP701Written(t *testing.T) {
	for _, x := range []struct {
		c         api.Circuit
		text, raw string
	}{
		{api.Circuit{}, "aag 0 0 0 0 0\n", "aig 0 0 0 0 0\n"},
		{api.Circuit{Max: 5000}, "aag 5000 0 0 0 0\n", "aig 0 0 0 0 0\n"},
		{small(), smallAscii, smallBinary},
		{api.Circuit{Outputs: []int{1, 0}}, "aag 0 0 0 2 0\n1\n0\n", "aig 0 0 0 2 0\n1\n0\n"},
		{api.Circuit{Bads: []int{1}}, "aag 0 0 0 0 0 1\n1\n", "aig 0 0 0 0 0 1\n1\n"},
		{api.Circuit{Constraints: []int{1}}, "aag 0 0 0 0 0 0 1\n1\n", "aig 0 0 0 0 0 0 1\n1\n"},
		{api.Circuit{Bads: []int{1}, Constraints: []int{0, 0}}, "aag 0 0 0 0 0 1 2\n1\n0\n0\n", "aig 0 0 0 0 0 1 2\n1\n0\n0\n"},
		{api.Circuit{Max: 9, Inputs: []int{18, 2}}, "aag 9 2 0 0 0\n18\n2\n", "aig 2 2 0 0 0\n"},
		{api.Circuit{Max: 9, Latches: []api.Latch{{Lit: 18, Next: 19}}}, "aag 9 0 1 0 0\n18 19\n", "aig 1 0 1 0 0\n3\n"},
		{api.Circuit{Max: 9, Latches: []api.Latch{{Lit: 18, Reset: 18}}}, "aag 9 0 1 0 0\n18 0 18\n", "aig 1 0 1 0 0\n0 2\n"},
		{api.Circuit{Max: 9, Latches: []api.Latch{{Lit: 18, Reset: 1}}}, "aag 9 0 1 0 0\n18 0 1\n", "aig 1 0 1 0 0\n0 1\n"},
		{api.Circuit{Max: 9, Ands: []api.And{{Lit: 18, A: 0, B: 1}}}, "aag 9 0 0 0 1\n18 0 1\n", "aig 1 0 0 0 1\n\x01\x01"},
	} {
		checkWritten(t, "Ascii", Ascii, x.c, x.text, api.OK)
		checkWritten(t, "Binary", Binary, x.c, x.raw, api.OK)
	}
}

// fault is what is no circuit, and by which error.
type fault struct {
	c api.Circuit
	e api.Errno
}

// named tells a circuit of one output that has those names.
func named(names ...api.Symbol) api.Circuit {
	return api.Circuit{Outputs: []int{0}, Names: names}
}

// faults tells what is no circuit: by each error, and by Symbols alone.
func faults() []fault {
	return []fault{
		{api.Circuit{Max: api.MaxVar + 1}, api.ErrLong},
		{api.Circuit{Max: -1, Outputs: make([]int, api.MaxPorts+1)}, api.ErrLong},
		{named(api.Symbol{Kind: 'o', Name: "a"}, api.Symbol{Kind: 'o', Name: "a"}), api.ErrLong},
		{api.Circuit{Max: -1}, api.ErrArg},
		{api.Circuit{Outputs: []int{2}}, api.ErrArg},
		{named(api.Symbol{Kind: 'o', Name: "a\nb"}), api.ErrArg},
		{named(api.Symbol{Kind: 'o'}), api.ErrArg},
		{named(api.Symbol{Kind: 'o', Index: 1, Name: "a"}), api.ErrArg},
		{named(api.Symbol{Kind: 'x', Name: "a"}), api.ErrArg},
		{named(api.Symbol{Kind: 'o', Name: strings.Repeat("n", api.MaxName+1)}), api.ErrArg},
		{api.Circuit{Max: 1, Inputs: []int{2, 2}}, api.ErrTwice},
		{api.Circuit{Outputs: []int{0, 1}, Names: []api.Symbol{{Kind: 'o', Name: "a"}, {Kind: 'o', Name: "b"}}}, api.ErrTwice},
		{api.Circuit{Max: 1, Bads: []int{2}}, api.ErrNone},
		{api.Circuit{Max: 1, Ands: []api.And{{Lit: 2, A: 3, B: 1}}}, api.ErrCycle},
	}
}

func TestP701Errors(t *testing.T) {
	for _, x := range faults() {
		checkWritten(t, "Ascii", Ascii, x.c, "", x.e)
		checkWritten(t, "Binary", Binary, x.c, "", x.e)
	}
}

// lot tells numbers that look like chance, the same ones each time.
type lot uint64

func (l *lot) next(n int) int {
	*l = *l*6364136223846793005 + 1442695040888963407
	return int(uint64(*l) >> 33 % uint64(n))
}

// circuit tells a right circuit whose variables have gaps between them.
func (l *lot) circuit() api.Circuit {
	var c api.Circuit
	lits := []int{0}
	side := func() int { return lits[l.next(len(lits))] + l.next(2) }
	fresh := func() int {
		c.Max += 1 + l.next(3)
		lits = append(lits, 2*c.Max)
		return 2 * c.Max
	}
	for range l.next(4) {
		c.Inputs = append(c.Inputs, fresh())
	}
	for range l.next(4) {
		lit := fresh()
		c.Latches = append(c.Latches, api.Latch{Lit: lit, Next: side(), Reset: []int{0, 1, lit}[l.next(3)]})
	}
	for range l.next(100) {
		a, b := side(), side()
		c.Ands = append(c.Ands, api.And{Lit: fresh(), A: a, B: b})
	}
	for i := len(c.Ands) - 1; i > 0; i-- {
		j := l.next(i + 1)
		c.Ands[i], c.Ands[j] = c.Ands[j], c.Ands[i]
	}
	for i := range l.next(4) {
		c.Outputs = append(c.Outputs, side())
		c.Names = append([]api.Symbol{{Kind: 'o', Index: i, Name: strings.Repeat(" y", 1+i)}}, c.Names...)
	}
	for range l.next(3) {
		c.Bads = append(c.Bads, side())
	}
	for range l.next(3) {
		c.Constraints = append(c.Constraints, side())
	}
	return c
}

func TestP702ReadAgain(t *testing.T) {
	all := []api.Circuit{{}, small(), full()}
	l := lot(7)
	for range 2000 {
		all = append(all, l.circuit())
	}
	for _, c := range all {
		text, e := Ascii(c)
		if again, f := ascii.Read(text); e != api.OK || f != api.OK || !aig.Same(again, c) {
			t.Errorf("P702: %.200s became %.200s, %d, %d", fmt.Sprint(c), fmt.Sprint(again), e, f)
		}
		n, _ := aig.Normal(c)
		raw, e := Binary(c)
		if again, f := binary.Read(raw); e != api.OK || f != api.OK || !aig.Same(again, n) {
			t.Errorf("P702: %.200s became %.200s, %d, %d", fmt.Sprint(n), fmt.Sprint(again), e, f)
		}
	}
}

func TestP701NothingIsKept(t *testing.T) {
	c := small()
	for _, write := range []func(c api.Circuit) ([]byte, api.Errno){Ascii, Binary} {
		want, _ := write(c)
		want = bytes.Clone(want)
		got, _ := write(c)
		clear(got[:cap(got)])
		if got, _ = write(c); !bytes.Equal(got, want) || !aig.Same(c, small()) {
			t.Errorf("P701: an answer is kept, or the circuit is turned: %q, %v", got, c)
		}
		if got, e := write(api.Circuit{Max: -1}); len(got) > 0 || e != api.ErrArg {
			t.Errorf("P701: %q, %d", got, e)
		}
	}
}
