package printer

import (
	"strconv"

	"retorter/api"
	"retorter/delta"
)

// writer holds what was written so far.
type writer struct{ out []byte }

// each writes all of a list.
func each[T any](list []T, write func(T)) {
	for _, x := range list {
		write(x)
	}
}

// header writes the first line: the numbers of Bads and Constraints only where it can't do without.
func (w *writer) header(word string, c api.Circuit) {
	n := []int{c.Max, len(c.Inputs), len(c.Latches), len(c.Outputs), len(c.Ands)}
	if len(c.Bads) > 0 || len(c.Constraints) > 0 {
		n = append(n, len(c.Bads))
	}
	if len(c.Constraints) > 0 {
		n = append(n, len(c.Constraints))
	}
	w.out = append(w.out, word...)
	w.out = append(w.out, ' ')
	w.line(n...)
}

// ports writes what both ways of writing have alike between Latches and Ands.
func (w *writer) ports(c api.Circuit) {
	each(c.Outputs, w.literal)
	each(c.Bads, w.literal)
	each(c.Constraints, w.literal)
}

// line writes numbers with a blank between, and the line's end.
func (w *writer) line(numbers ...int) {
	for i, n := range numbers {
		if i > 0 {
			w.out = append(w.out, ' ')
		}
		w.out = strconv.AppendInt(w.out, int64(n), 10)
	}
	w.out = append(w.out, '\n')
}

// literal writes a line of one literal.
func (w *writer) literal(l int) {
	w.line(l)
}

// latch writes a Latch's line.
func (w *writer) latch(l api.Latch) {
	w.line(append([]int{l.Lit}, later(l)...)...)
}

// next writes the line of a Latch whose Lit is known by its place.
func (w *writer) next(l api.Latch) {
	w.line(later(l)...)
}

// later tells what is written of a Latch behind its Lit: a Reset only if it is not 0.
func later(l api.Latch) []int {
	if l.Reset == 0 {
		return []int{l.Next}
	}
	return []int{l.Next, l.Reset}
}

// and writes an And's line.
func (w *writer) and(a api.And) {
	w.line(a.Lit, a.A, a.B)
}

// steps writes by how much A is less than Lit, and B less than A.
func (w *writer) steps(a api.And) {
	w.out = append(w.out, delta.Put(nil, a.Lit-a.A)...)
	w.out = append(w.out, delta.Put(nil, a.A-a.B)...)
}

// symbol writes the line of a name.
func (w *writer) symbol(s api.Symbol) {
	w.out = append(w.out, s.Kind)
	w.out = strconv.AppendInt(w.out, int64(s.Index), 10)
	w.out = append(w.out, ' ')
	w.out = append(w.out, s.Name...)
	w.out = append(w.out, '\n')
}
