package sim

import (
	"retorter/aig"
	"retorter/api"
)

// signals holds what each variable of a circuit is, from 0, which is false, to Max.
type signals []bool

// settled tells the signals of c in that state, with those inputs.
func settled(c api.Circuit, state, inputs []bool) (signals, api.Errno) {
	order, e := aig.Order(c)
	if e != api.OK {
		return nil, e
	}
	if len(state) != len(c.Latches) || len(inputs) != len(c.Inputs) {
		return nil, api.ErrArg
	}
	s := make(signals, c.Max+1)
	for i, l := range c.Inputs {
		s[l/2] = inputs[i]
	}
	for i, l := range c.Latches {
		s[l.Lit/2] = state[i]
	}
	settle := s.and
	for _, place := range order {
		settle(c.Ands[place])
	}
	return s, api.OK
}

// literal tells what a literal is.
func (s signals) literal(l int) bool {
	turned := l%2 == 1
	return s[l/2] != turned
}

// next tells what a Latch is at the next step.
func (s signals) next(l api.Latch) bool {
	return s.literal(l.Next)
}

// and sets what an And is, by its sides, which must be set.
func (s signals) and(a api.And) {
	s[a.Lit/2] = s.literal(a.A) && s.literal(a.B)
}

// each asks of all of a list.
func each[T any](list []T, is func(T) bool) []bool {
	all := make([]bool, len(list))
	for i, x := range list {
		all[i] = is(x)
	}
	return all
}
