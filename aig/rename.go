package aig

import (
	"strings"

	"retorter/api"
)

// renaming tells of each variable of a circuit which one it becomes; 0 stays.
type renaming []int

// newRenaming gives Inputs, Latches, and Ands in that order of their places the variables from 1 on.
func newRenaming(c api.Circuit, order []int) renaming {
	r := make(renaming, c.Max+1)
	next := 1
	give := func(l int) {
		r[l/2] = next
		next++
	}
	for _, l := range c.Inputs {
		give(l)
	}
	for _, l := range c.Latches {
		give(l.Lit)
	}
	for _, place := range order {
		give(c.Ands[place].Lit)
	}
	return r
}

// literal tells what l becomes.
func (r renaming) literal(l int) int {
	return 2*r[l/2] + l%2
}

// literals tells what those of a list become.
func (r renaming) literals(list []int) []int {
	all := make([]int, len(list))
	for i, l := range list {
		all[i] = r.literal(l)
	}
	return all
}

// latches tells what latches become.
func (r renaming) latches(list []api.Latch) []api.Latch {
	all := make([]api.Latch, len(list))
	for i, l := range list {
		all[i] = api.Latch{Lit: r.literal(l.Lit), Next: r.literal(l.Next), Reset: r.literal(l.Reset)}
	}
	return all
}

// ands tells what Ands become, in that order of their places, the greater side first.
func (r renaming) ands(list []api.And, order []int) []api.And {
	all := make([]api.And, len(order))
	for i, place := range order {
		a := list[place]
		one, other := r.literal(a.A), r.literal(a.B)
		all[i] = api.And{Lit: r.literal(a.Lit), A: max(one, other), B: min(one, other)}
	}
	return all
}

// copied tells the Symbols with names of their own, since an answer shares no memory with an argument.
func copied(list []api.Symbol) []api.Symbol {
	all := make([]api.Symbol, len(list))
	for i, s := range list {
		all[i] = api.Symbol{Kind: s.Kind, Index: s.Index, Name: strings.Clone(s.Name)}
	}
	return all
}
