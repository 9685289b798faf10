package sim

import (
	"testing"

	"retorter/api"
)

func TestMachineStepsAsStepDoes(t *testing.T) {
	l := lot(80)
	for range 500 {
		c := l.circuit()
		m, e := NewMachine(c)
		if e != api.OK {
			t.Fatalf("P801: no Machine of %v: %d", c, e)
		}
		// One Machine goes on where it was, and back to what it did.
		for range 8 {
			state, inputs := bits(l.next(16), l.next(5)), bits(l.next(16), l.next(5))
			got, e := m.Step(state, inputs)
			want, f := Step(c, state, inputs)
			if e != f || !alike(got, want) {
				t.Errorf("P801: of %v in %v with %v: %v, %d; Step tells %v, %d", c, state, inputs, got, e, want, f)
			}
		}
	}
}

func TestMachineErrors(t *testing.T) {
	for _, x := range faults() {
		if m, e := NewMachine(x.c); m != nil || e != x.e {
			t.Errorf("P801: %s: %v, %d; want %d", x.name, m, e, x.e)
		}
	}
}
