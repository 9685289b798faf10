// Package lines stands beside the layers: it reads what circuits written as text and circuits written in bytes have in common.
package lines

import (
	"strings"

	"retorter/aig"
	"retorter/api"
	"retorter/text"
)

// Places of the numbers in a header.
const (
	Max = iota
	Inputs
	Latches
	Outputs
	Ands
	Bads
	Constraints
	Justice
	Fairness
	HeaderSize
)

// Grammar is a way to write circuits. Input, Latch and And each read one, and are told the literal that it has where variables are given out in order.
type Grammar struct {
	Word   string // that the first line begins with
	Header func(s string) ([]int, api.Errno)
	Input  func(r *Reader, lit int) int
	Latch  func(r *Reader, lit int) api.Latch
	And    func(r *Reader, lit int) api.And
}

// Read tells the circuit that b writes.
func (g Grammar) Read(b []byte) (api.Circuit, api.Errno) {
	if len(b) > api.MaxBytes {
		return api.Circuit{}, api.ErrLong
	}
	r := &Reader{Reader: text.Of(b)}
	rest, ok := strings.CutPrefix(r.Line(), g.Word+" ")
	if !ok {
		return api.Circuit{}, api.ErrSyntax
	}
	h, e := g.Header(rest)
	if e != api.OK {
		return api.Circuit{}, e
	}
	c := g.circuit(r, h)
	if r.Failed() {
		return api.Circuit{}, api.ErrSyntax
	}
	if e := told(aig.Check(c)); e != api.OK {
		return api.Circuit{}, e
	}
	return c, api.OK
}

// circuit tells what stands behind the header h.
func (g Grammar) circuit(r *Reader, h []int) api.Circuit {
	r.top = 2*h[Max] + 1
	c := api.Circuit{Max: h[Max]}
	firstLatch := 1 + h[Inputs]
	c.Inputs = items(r, 1, h[Inputs], g.Input)
	c.Latches = items(r, firstLatch, h[Latches], g.Latch)
	c.Outputs = items(r, 0, h[Outputs], Literal)
	c.Bads = items(r, 0, h[Bads], Literal)
	c.Constraints = items(r, 0, h[Constraints], Literal)
	c.Ands = items(r, firstLatch+h[Latches], h[Ands], g.And)
	c.Names = r.names()
	return c
}

// items reads count things, of which the first has the variable first.
func items[T any](r *Reader, first, count int, read func(r *Reader, lit int) T) []T {
	var list []T
	for i := range count {
		list = append(list, read(r, 2*(first+i)))
	}
	return list
}

// Literal reads a line of one literal, whichever its place would have.
func Literal(r *Reader, _ int) int {
	return r.Numbers(1, 1)[0]
}

// told tells as which error a reader tells one of aig.Check.
func told(e api.Errno) api.Errno {
	switch e {
	case api.OK, api.ErrCycle, api.ErrTwice, api.ErrNone:
		return e
	}
	return api.ErrSyntax
}
