package sim

import (
	"slices"

	"retorter/aig"
	"retorter/api"
	"retorter/signals"
)

// Machine is a circuit that is checked once and stepped again and again, for the layers below. It stands on the circuit that it was made of, which is to stay as it is.
type Machine struct {
	machine *signals.Machine[bool]
	bads    []int
}

// NewMachine tells the Machine of c; the error is aig.Check's.
func NewMachine(c api.Circuit) (*Machine, api.Errno) {
	m, e := logic().Machine(c)
	if e != api.OK {
		return nil, e
	}
	return &Machine{machine: m, bads: aig.Bads(c)}, api.OK
}

// Step tells what Step tells of the circuit.
func (m *Machine) Step(state, inputs []bool) (api.Row, api.Errno) {
	s, e := m.machine.Settle(state, inputs)
	if e != api.OK {
		return api.Row{}, e
	}
	c := m.machine.Circuit
	return api.Row{
		Next:  signals.Each(c.Latches, s.Next),
		Outs:  signals.Each(c.Outputs, s.Literal),
		Bads:  signals.Each(m.bads, s.Literal),
		Holds: !slices.Contains(signals.Each(c.Constraints, s.Literal), false),
	}, api.OK
}
