package cone

import (
	"container/heap"

	"retorter/api"
	"retorter/pile"
)

// variable is what is told of one.
type variable struct {
	there bool  // it is one of the circuit's, or 0
	found bool  // something that was asked for hangs on it
	on    []int // the literals on which it hangs at once
}

// reach holds how far it was found on what things of a circuit hang.
type reach struct {
	vars []variable      // from 0 to Max
	next *pile.Pile[int] // variables that were found, but not followed
}

// newReach tells the reach in which nothing was found.
func newReach(c api.Circuit) *reach {
	r := &reach{vars: make([]variable, c.Max+1), next: pile.Least()}
	r.vars[0].there = true
	for _, l := range c.Inputs {
		r.vars[l/2].there = true
	}
	for _, l := range c.Latches {
		r.vars[l.Lit/2] = variable{there: true, on: []int{l.Next}}
	}
	for _, a := range c.Ands {
		r.vars[a.Lit/2] = variable{there: true, on: []int{a.A, a.B}}
	}
	return r
}

// known tells whether all of lits are literals of variables that are there.
func (r *reach) known(lits []int) bool {
	for _, l := range lits {
		if l < 0 || l/2 >= len(r.vars) || !r.vars[l/2].there {
			return false
		}
	}
	return true
}

// findAll finds all on which lits hang.
func (r *reach) findAll(lits []int) {
	r.find(lits)
	for r.next.Len() > 0 {
		r.find(r.vars[heap.Pop(r.next).(int)].on)
	}
}

// find finds the variables of lits; 0 is none on which something hangs.
func (r *reach) find(lits []int) {
	for _, l := range lits {
		v := l / 2
		if v == 0 || r.vars[v].found {
			continue
		}
		r.vars[v].found = true
		heap.Push(r.next, v)
	}
}

// has tells whether the variable of a literal was found.
func (r *reach) has(l int) bool {
	return r.vars[l/2].found
}

// variables tells those that were found, rising.
func (r *reach) variables() []int {
	var all []int
	for v, x := range r.vars {
		if x.found {
			all = append(all, v)
		}
	}
	return all
}
