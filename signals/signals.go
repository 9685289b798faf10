// Package signals stands beside the layers: it tells what the signals of a circuit are, in values of any kind.
package signals

import (
	"retorter/aig"
	"retorter/api"
)

// Logic is a kind of values, among which T's zero value is what is false: what one is when it is turned over, and what two are together.
type Logic[T any] struct {
	Not func(x T) T
	And func(x, y T) T
}

// Signals holds what each variable of a circuit is, from 0, which is false, to Max.
type Signals[T any] struct {
	Logic  Logic[T]
	Values []T
}

// Machine is a circuit that was checked, to be settled again and again. It stands on what it was made of, which is to stay as it is.
type Machine[T any] struct {
	Circuit api.Circuit
	logic   Logic[T]
	order   []int // the places of the Ands, each behind those that it needs
}

// Machine tells c as one.
func (g Logic[T]) Machine(c api.Circuit) (*Machine[T], api.Errno) {
	order, e := aig.Order(c)
	if e != api.OK {
		return nil, e
	}
	return &Machine[T]{Circuit: c, logic: g, order: order}, api.OK
}

// Settle tells the signals in that state, with those inputs.
func (m *Machine[T]) Settle(state, inputs []T) (*Signals[T], api.Errno) {
	c := m.Circuit
	if len(state) != len(c.Latches) || len(inputs) != len(c.Inputs) {
		return nil, api.ErrArg
	}
	s := &Signals[T]{Logic: m.logic, Values: make([]T, c.Max+1)}
	for i, l := range c.Inputs {
		s.Values[l/2] = inputs[i]
	}
	for i, l := range c.Latches {
		s.Values[l.Lit/2] = state[i]
	}
	settle := s.and
	for _, place := range m.order {
		settle(c.Ands[place])
	}
	return s, api.OK
}

// Settle tells the signals of c in that state, with those inputs.
func (g Logic[T]) Settle(c api.Circuit, state, inputs []T) (*Signals[T], api.Errno) {
	m, e := g.Machine(c)
	if e != api.OK {
		return nil, e
	}
	return m.Settle(state, inputs)
}

// Literal tells what a literal is.
func (s *Signals[T]) Literal(l int) T {
	x := s.Values[l/2]
	if l%2 == 1 {
		return s.Logic.Not(x)
	}
	return x
}

// Next tells what a Latch is at the next step.
func (s *Signals[T]) Next(l api.Latch) T {
	return s.Literal(l.Next)
}

// and sets what an And is, by its sides, which must be set.
func (s *Signals[T]) and(a api.And) {
	s.Values[a.Lit/2] = s.Logic.And(s.Literal(a.A), s.Literal(a.B))
}

// Each asks of all of a list.
func Each[T, V any](list []T, what func(T) V) []V {
	all := make([]V, len(list))
	for i, x := range list {
		all[i] = what(x)
	}
	return all
}
