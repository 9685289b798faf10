package trace

import (
	"reflect"
	"slices"
	"sync"
	"testing"

	"retorter/aig"
	"retorter/api"
)

// lot is a row of numbers by a plain rule, the same ones each time.
type lot uint64

// next tells a number from 0 to n - 1.
func (l *lot) next(n int) int {
	*l = *l*6364136223846793005 + 1442695040888963407
	return int(uint64(*l)>>33) % n
}

// bools tells n of them.
func (l *lot) bools(n int) []bool {
	list := make([]bool, n)
	for i := range list {
		list[i] = l.next(2) == 1
	}
	return list
}

// circuit tells one of few Inputs and Latches, its Ands in no order, with variables that are none.
func (l *lot) circuit() api.Circuit {
	var c api.Circuit
	known := []int{0}
	any := func() int { return known[l.next(len(known))] + l.next(2) }
	fresh := func() int {
		c.Max += 1 + l.next(2)
		known = append(known, 2*c.Max)
		return 2 * c.Max
	}
	for range l.next(3) {
		c.Inputs = append(c.Inputs, fresh())
	}
	for range 1 + l.next(3) {
		lit := fresh()
		c.Latches = append(c.Latches, api.Latch{Lit: lit, Reset: []int{0, 1, lit}[l.next(3)]})
	}
	for range l.next(7) {
		a, b := any(), any()
		c.Ands = append(c.Ands, api.And{Lit: fresh(), A: a, B: b})
	}
	for i := range c.Ands {
		j := l.next(i + 1)
		c.Ands[i], c.Ands[j] = c.Ands[j], c.Ands[i]
	}
	for i := range c.Latches {
		c.Latches[i].Next = any()
	}
	c.Outputs = []int{any(), any()}
	for range l.next(3) {
		c.Bads = append(c.Bads, any())
	}
	for range l.next(3) {
		c.Constraints = append(c.Constraints, any())
	}
	return c
}

// byHand tells what a literal is, by going back to what it hangs on.
func byHand(c api.Circuit, state, inputs []bool, l int) bool {
	turned := l&1 == 1
	if i := slices.Index(c.Inputs, l&^1); i >= 0 {
		return inputs[i] != turned
	}
	if i := slices.IndexFunc(c.Latches, func(x api.Latch) bool { return x.Lit == l&^1 }); i >= 0 {
		return state[i] != turned
	}
	if i := slices.IndexFunc(c.Ands, func(x api.And) bool { return x.Lit == l&^1 }); i >= 0 {
		return (byHand(c, state, inputs, c.Ands[i].A) && byHand(c, state, inputs, c.Ands[i].B)) != turned
	}
	return turned
}

// byHandCheck is P1101 told again, of a right circuit, a bad that is there, and bools of the right numbers.
func byHandCheck(c api.Circuit, bad int, t api.Trace) bool {
	for i, l := range c.Latches {
		if l.Reset == 0 && t.Start[i] || l.Reset == 1 && !t.Start[i] {
			return false
		}
	}
	state, is := t.Start, false
	for _, inputs := range t.Inputs {
		for _, l := range c.Constraints {
			if !byHand(c, state, inputs, l) {
				return false
			}
		}
		is = byHand(c, state, inputs, aig.Bads(c)[bad])
		var next []bool
		for _, l := range c.Latches {
			next = append(next, byHand(c, state, inputs, l.Next))
		}
		state = next
	}
	return is
}

func TestP1101ManyCircuits(t *testing.T) {
	l := lot(11)
	told := map[bool]int{}
	for range 2000 {
		c := l.circuit()
		for range 20 {
			tr := api.Trace{Start: l.bools(len(c.Latches))}
			// Mostly a Start that may be, lest nearly all are told false for it.
			for i, x := range c.Latches {
				if x.Reset < 2 && l.next(10) > 0 {
					tr.Start[i] = x.Reset == 1
				}
			}
			for range 1 + l.next(4) {
				tr.Inputs = append(tr.Inputs, l.bools(len(c.Inputs)))
			}
			bad := l.next(len(aig.Bads(c)))
			want := byHandCheck(c, bad, tr)
			told[want]++
			checkCheck(t, "by lot", c, bad, tr, want)
		}
	}
	if told[true] < 5000 || told[false] < 5000 {
		t.Errorf("P1101: no fair lot: %v", told)
	}
}

// roomy tells a circuit and a trace that comes about in it, with marked spare room behind each list.
func roomy() (api.Circuit, api.Trace) {
	c := small()
	c.Inputs = append(c.Inputs, -1)[:2]
	c.Latches = append(c.Latches, api.Latch{Lit: -1})[:3]
	c.Outputs = append(c.Outputs, -1)[:3]
	c.Bads = append(c.Bads, -1)[:2]
	c.Constraints = append(c.Constraints, -1)[:2]
	c.Ands = append(c.Ands, api.And{Lit: -1})[:5]
	tr := of("0101", "001", "001", "101", "001", "11")
	tr.Start = tr.Start[:3]
	tr.Inputs = tr.Inputs[:4]
	for i := range tr.Inputs {
		tr.Inputs[i] = tr.Inputs[i][:2]
	}
	return c, tr
}

func TestP1103NothingIsTurned(t *testing.T) {
	c, tr := roomy()
	for bad := -1; bad < 4; bad++ {
		Check(c, bad, tr)
		Write(bad, tr)
	}
	if want, _ := roomy(); !aig.Same(c, want) || c.Inputs[:3][2] != -1 || c.Latches[:4][3].Lit != -1 || c.Outputs[:4][3] != -1 || c.Bads[:3][2] != -1 || c.Constraints[:3][2] != -1 || c.Ands[:6][5].Lit != -1 {
		t.Errorf("P1103: the circuit is turned: %v", c)
	}
	tr.Start, tr.Inputs = tr.Start[:4], tr.Inputs[:5]
	for i := range 4 {
		tr.Inputs[i] = tr.Inputs[i][:3]
	}
	if want := of("0101", "001", "001", "101", "001", "11"); !alike(tr, want) {
		t.Errorf("P1103: the trace is turned: %v", tr)
	}
}

// turnOver turns over all bools of a list, and those of its spare room.
func turnOver(list []bool) {
	list = list[:cap(list)]
	for i := range list {
		list[i] = !list[i]
	}
}

func TestP1103NothingIsKept(t *testing.T) {
	const s = "1\nb3\n10\n011\n100\n111\n.\n"
	want := of("10", "011", "100", "111")
	_, got, _ := Read(s, 2, 3)
	// Each list of an answer is turned, and the others stay.
	turnOver(got.Start)
	if !alike(api.Trace{Inputs: got.Inputs}, api.Trace{Inputs: want.Inputs}) {
		t.Errorf("P1103: lists of an answer share memory: %v", got)
	}
	for i, row := range got.Inputs {
		turnOver(row)
		if !alike(api.Trace{Inputs: got.Inputs[i+1:]}, api.Trace{Inputs: want.Inputs[i+1:]}) {
			t.Errorf("P1103: lists of an answer share memory: %v", got)
		}
	}
	if _, again, e := Read(s, 2, 3); e != api.OK || !alike(again, want) {
		t.Errorf("P1103: read again: %v, %d", again, e)
	}
	// What was handed in is turned, and what is told next hangs on what it is now.
	c, tr := roomy()
	text := Write(0, tr)
	if !Check(c, 0, tr) || text != "1\nb0\n010\n00\n00\n10\n00\n.\n" {
		t.Errorf("P1103: %q", text)
	}
	tr.Inputs[2][0] = false
	if Check(c, 0, tr) || Write(0, tr) != "1\nb0\n010\n00\n00\n00\n00\n.\n" || text != "1\nb0\n010\n00\n00\n10\n00\n.\n" {
		t.Errorf("P1103: what was told ahead: %q", text)
	}
	tr.Inputs[2][0] = true
	c.Bads[0] = 0
	if Check(c, 0, tr) {
		t.Error("P1103: a bad that is gone")
	}
}

func TestP1103AtOnce(t *testing.T) {
	type answers struct {
		comes bool
		text  string
		bad   int
		trace api.Trace
	}
	c := counter(10)
	tr := api.Trace{Start: make([]bool, 10), Inputs: make([][]bool, 1024)}
	ask := func() (a answers) {
		a.comes = Check(c, 0, tr)
		a.text = Write(7, tr)
		a.bad, a.trace, _ = Read(a.text, 10, 0)
		return a
	}
	want := ask()
	if !want.comes || want.bad != 7 || !alike(want.trace, tr) {
		t.Errorf("P1103: %s", short(want))
	}
	got := make([]answers, 16)
	var all sync.WaitGroup
	for i := range got {
		all.Go(func() { got[i] = ask() })
	}
	all.Wait()
	for i := range got {
		if !reflect.DeepEqual(got[i], want) {
			t.Errorf("P1103: asked at once, %d is told another answer", i)
		}
	}
}
