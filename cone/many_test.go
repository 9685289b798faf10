package cone

import (
	"reflect"
	"slices"
	"sync"
	"testing"

	"retorter/aig"
	"retorter/api"
	"retorter/sim"
)

// lot is a row of numbers by a plain rule, the same ones each time.
type lot uint64

// next tells a number from 0 to n - 1.
func (l *lot) next(n int) int {
	*l = *l*6364136223846793005 + 1442695040888963407
	return int(uint64(*l)>>33) % n
}

// shuffled tells a list in an order by the lot.
func shuffled[T any](l *lot, list []T) []T {
	for i := range list {
		j := l.next(i + 1)
		list[i], list[j] = list[j], list[i]
	}
	return list
}

// circuit tells one with variables in no order, some of them none, Ands in no order, of few Inputs and Latches.
func (l *lot) circuit() api.Circuit {
	c := api.Circuit{Max: 16}
	variables := shuffled(l, upTo(1, c.Max))
	known := []int{0}
	take := func() int {
		lit := 2 * variables[0]
		variables, known = variables[1:], append(known, lit)
		return lit
	}
	any := func() int { return known[l.next(len(known))] + l.next(2) }
	for range l.next(4) {
		c.Inputs = append(c.Inputs, take())
	}
	for range l.next(5) {
		lit := take()
		c.Latches = append(c.Latches, api.Latch{Lit: lit, Reset: []int{0, 1, lit}[l.next(3)]})
	}
	for range l.next(7) {
		a := api.And{A: any(), B: any()}
		a.Lit = take()
		c.Ands = append(c.Ands, a)
	}
	shuffled(l, c.Ands)
	for i := range c.Latches {
		c.Latches[i].Next = any()
	}
	for range l.next(3) {
		c.Bads = append(c.Bads, any())
	}
	for range l.next(3) {
		c.Constraints = append(c.Constraints, any())
	}
	c.Outputs = []int{any(), any()}
	return c
}

// byHand is P1001's Of told again: all things are gone through, until nothing more hangs on what is there.
func byHand(c api.Circuit, lits []int) []int {
	in := map[int]bool{}
	for _, l := range lits {
		in[l/2] = true
	}
	for was := -1; was < len(in); {
		was = len(in)
		for _, l := range c.Latches {
			if in[l.Lit/2] {
				in[l.Next/2] = true
			}
		}
		for _, a := range c.Ands {
			if in[a.Lit/2] {
				in[a.A/2], in[a.B/2] = true, true
			}
		}
	}
	var all []int
	for v := 1; v <= c.Max; v++ {
		if in[v] {
			all = append(all, v)
		}
	}
	return all
}

// byHandCut is P1001's Cut told again, by that.
func byHandCut(c api.Circuit, bad int) cut {
	is := aig.Bads(c)[bad]
	in := byHand(c, append([]int{is}, c.Constraints...))
	told := cut{c: api.Circuit{Max: c.Max, Bads: []int{is}, Constraints: c.Constraints}}
	for i, l := range c.Inputs {
		if slices.Contains(in, l/2) {
			told.c.Inputs, told.inputs = append(told.c.Inputs, l), append(told.inputs, i)
		}
	}
	for i, l := range c.Latches {
		if slices.Contains(in, l.Lit/2) {
			told.c.Latches, told.latches = append(told.c.Latches, l), append(told.latches, i)
		}
	}
	for _, a := range c.Ands {
		if slices.Contains(in, a.Lit/2) {
			told.c.Ands = append(told.c.Ands, a)
		}
	}
	return told
}

func TestP1001OfManyCircuits(t *testing.T) {
	l := lot(1)
	for range 5000 {
		c := l.circuit()
		if e := aig.Check(c); e != api.OK {
			t.Fatalf("no circuit, %d: %v", e, c)
		}
		known := []int{0}
		known = append(known, c.Inputs...)
		for _, x := range c.Latches {
			known = append(known, x.Lit)
		}
		for _, x := range c.Ands {
			known = append(known, x.Lit)
		}
		var lits []int
		for range l.next(4) {
			lits = append(lits, known[l.next(len(known))]+l.next(2))
		}
		checkOf(t, c, lits, byHand(c, lits))
		for v := range c.Max + 1 {
			if got, e := Of(c, []int{2*v + 1}); (e == api.OK) != slices.Contains(known, 2*v) || e != api.OK && (e != api.ErrArg || len(got) > 0) {
				t.Errorf("P1001: Of variable %d of %v: %v, %d", v, c, got, e)
			}
		}
		for bad := range aig.Bads(c) {
			checkCut(t, c, bad, byHandCut(c, bad))
		}
	}
}

// bits tells the n low bits of a number.
func bits(number, n int) []bool {
	list := make([]bool, n)
	for i := range list {
		list[i] = number>>i&1 == 1
	}
	return list
}

// number tells the number whose bits a list is.
func number(list []bool) int {
	all := 0
	for i, x := range list {
		if x {
			all += 1 << i
		}
	}
	return all
}

// reachable tells at which step that bad comes about first; -1 if it never does.
func reachable(c api.Circuit, bad int) int {
	found := map[int]bool{}
	var now []int
	for free := range 1 << len(c.Latches) {
		first, _ := sim.First(c, bits(free, len(c.Latches)))
		if n := number(first); !found[n] {
			found[n] = true
			now = append(now, n)
		}
	}
	for step := 0; len(now) > 0; step++ {
		var after []int
		for _, n := range now {
			for in := range 1 << len(c.Inputs) {
				r, _ := sim.Step(c, bits(n, len(c.Latches)), bits(in, len(c.Inputs)))
				if !r.Holds {
					continue
				}
				if r.Bads[bad] {
					return step
				}
				if m := number(r.Next); !found[m] {
					found[m] = true
					after = append(after, m)
				}
			}
		}
		now = after
	}
	return -1
}

func TestP1002BothOrNeither(t *testing.T) {
	l := lot(2)
	steps := map[int]int{}
	for range 1500 {
		c := l.circuit()
		for bad := range aig.Bads(c) {
			less, _, _, e := Cut(c, bad)
			if e != api.OK || aig.Check(less) != api.OK {
				t.Fatalf("P1002: Cut of %v for %d: %v, %d", c, bad, less, e)
			}
			was, is := reachable(c, bad), reachable(less, 0)
			if was != is {
				t.Errorf("P1002: of %v the bad %d comes about at %d, but cut at %d", c, bad, was, is)
			}
			steps[was]++
		}
	}
	if steps[-1] < 100 || steps[0] < 100 || steps[1] < 20 || steps[2] < 5 {
		t.Errorf("P1002: no fair lot: %v", steps)
	}
}

// taken tells those of a list that stand in these places.
func taken(list []bool, places []int) []bool {
	var some []bool
	for _, place := range places {
		some = append(some, list[place])
	}
	return some
}

func TestP1002StepsAreAlike(t *testing.T) {
	l := lot(3)
	for range 500 {
		c := l.circuit()
		for bad := range aig.Bads(c) {
			less := cutOf(c, bad)
			for n := range 1 << (len(c.Latches) + len(c.Inputs)) {
				state, in := bits(n, len(c.Latches)), bits(n>>len(c.Latches), len(c.Inputs))
				was, _ := sim.Step(c, state, in)
				is, e := sim.Step(less.c, taken(state, less.latches), taken(in, less.inputs))
				if e != api.OK || !slices.Equal(is.Next, taken(was.Next, less.latches)) || is.Bads[0] != was.Bads[bad] || is.Holds != was.Holds {
					t.Fatalf("P1002: of %v in %v with %v: %v, but cut for %d: %v, %d", c, state, in, was, bad, is, e)
				}
			}
		}
	}
}

func TestP1002CutAgain(t *testing.T) {
	// What is cut has nothing more to lose.
	l := lot(4)
	for range 1000 {
		c := l.circuit()
		for bad := range aig.Bads(c) {
			less := cutOf(c, bad)
			checkCut(t, less.c, 0, cut{c: less.c, inputs: upTo(0, len(less.inputs)-1), latches: upTo(0, len(less.latches)-1)})
		}
	}
}

// roomy tells small with Constraints, and with marked spare room behind each list.
func roomy() api.Circuit {
	c := small()
	c.Constraints = []int{8, 37}
	c.Inputs = append(c.Inputs, -1)[:3]
	c.Latches = append(c.Latches, api.Latch{Lit: -1})[:5]
	c.Outputs = append(c.Outputs, -1)[:3]
	c.Bads = append(c.Bads, -1)[:8]
	c.Constraints = append(c.Constraints, -1)[:2]
	c.Ands = append(c.Ands, api.And{Lit: -1})[:5]
	c.Names = append(c.Names, api.Symbol{Index: -1})[:3]
	return c
}

func TestP1002NothingIsTurned(t *testing.T) {
	c, lits := roomy(), []int{33, 4, -1}[:2]
	for bad := range 9 {
		Of(c, lits)
		Cut(c, bad)
	}
	if want := roomy(); !aig.Same(c, want) || c.Inputs[:4][3] != -1 || c.Latches[:6][5].Lit != -1 || c.Outputs[:4][3] != -1 || c.Bads[:9][8] != -1 || c.Constraints[:3][2] != -1 || c.Ands[:6][5].Lit != -1 || c.Names[:4][3].Index != -1 {
		t.Errorf("P1002: the circuit is turned: %v", c)
	}
	if !slices.Equal(lits[:3], []int{33, 4, -1}) {
		t.Errorf("P1002: literals are turned: %v", lits[:3])
	}
	// Without Bads the Outputs are read, and stay too.
	c.Bads, c.Names = nil, nil
	Cut(c, 1)
	if !slices.Equal(c.Outputs[:4], []int{0, 23, 8, -1}) {
		t.Errorf("P1002: Outputs are turned: %v", c.Outputs[:4])
	}
}

// fill sets all of lists, and of their spare room, to other numbers.
func fill(lists ...[]int) {
	for _, list := range lists {
		list = list[:cap(list)]
		for i := range list {
			list[i] += 7
		}
	}
}

// spoil sets all of a circuit to other numbers.
func spoil(c api.Circuit) {
	fill(c.Inputs, c.Outputs, c.Bads, c.Constraints)
	for i := range c.Latches {
		c.Latches[i] = api.Latch{Lit: -7}
	}
	for i := range c.Ands {
		c.Ands[i] = api.And{Lit: -7}
	}
}

func TestP1002NothingIsKept(t *testing.T) {
	c, lits := roomy(), []int{33, 4}
	wantOf, want := byHand(roomy(), lits), byHandCut(roomy(), 0)
	list, _ := Of(c, lits)
	got := cutOf(c, 0)
	// What was handed in is turned, and what was answered stays.
	spoil(c)
	fill(lits)
	if !slices.Equal(list, wantOf) || !alike(got, want) {
		t.Errorf("P1002: an answer shares memory with an argument: %v, %v", list, got)
	}
	// One list of an answer is turned, and the others stay.
	fill(got.inputs)
	fill(got.c.Inputs)
	if fill(got.latches); !slices.Equal(got.c.Latches, want.c.Latches) || !slices.Equal(got.c.Bads, want.c.Bads) || !slices.Equal(got.c.Constraints, want.c.Constraints) || !slices.Equal(got.c.Ands, want.c.Ands) {
		t.Errorf("P1002: lists of an answer share memory: %v", got)
	}
	if fill(got.c.Bads); !slices.Equal(got.c.Constraints, want.c.Constraints) {
		t.Errorf("P1002: lists of an answer share memory: %v", got)
	}
	spoil(got.c)
	fill(list)
	checkOf(t, roomy(), []int{33, 4}, wantOf)
	checkCut(t, roomy(), 0, want)
}

func TestP1002AtOnce(t *testing.T) {
	type answers struct {
		list []int
		cut  cut
	}
	c := chain()
	ask := func() (a answers) {
		a.list, _ = Of(c, []int{c.Bads[0], c.Latches[5].Lit})
		a.cut = cutOf(c, 0)
		return a
	}
	want := ask()
	got := make([]answers, 16)
	var all sync.WaitGroup
	for i := range got {
		all.Go(func() { got[i] = ask() })
	}
	all.Wait()
	for i := range got {
		if !reflect.DeepEqual(got[i], want) {
			t.Errorf("P1002: asked at once, %d is told another answer", i)
		}
	}
}
