package ascii

import (
	"math"
	"strings"

	"retorter/api"
	"retorter/scan"
)

// kinds are the bytes that a line of names may begin with.
const kinds = "ilobc"

// reader goes through a text, line by line. Once it has failed it reads nothing any more, so that it is enough to ask at the end.
type reader struct {
	text   []byte
	at     int
	failed bool
}

// header tells the numbers of the first line, which begins with start.
func (r *reader) header(start string) ([]int, api.Errno) {
	rest, ok := strings.CutPrefix(r.line(), start)
	if !ok {
		return nil, api.ErrSyntax
	}
	return Header(rest)
}

// circuit tells what stands behind the header h.
func (r *reader) circuit(h []int) api.Circuit {
	top := 2*h[atMax] + 1
	c := api.Circuit{Max: h[atMax]}
	c.Inputs = r.literals(h[atInputs], top)
	c.Latches = r.latches(h[atLatches], top)
	c.Outputs = r.literals(h[atOutputs], top)
	c.Bads = r.literals(h[atBads], top)
	c.Constraints = r.literals(h[atConstraints], top)
	c.Ands = r.ands(h[atAnds], top)
	c.Names = r.names()
	return c
}

// literals reads count lines of one number each.
func (r *reader) literals(count, top int) []int {
	var list []int
	for range count {
		list = append(list, r.numbers(1, 1, top)...)
	}
	return list
}

// latches reads count lines of a Lit, a Next and perhaps a Reset.
func (r *reader) latches(count, top int) []api.Latch {
	var list []api.Latch
	for range count {
		n := r.numbers(2, 3, top)
		if r.failed {
			return nil
		}
		// A Reset that is not written is 0.
		n = append(n, 0)
		list = append(list, api.Latch{Lit: n[0], Next: n[1], Reset: n[2]})
	}
	return list
}

// ands reads count lines of a Lit and its two sides.
func (r *reader) ands(count, top int) []api.And {
	var list []api.And
	for range count {
		n := r.numbers(3, 3, top)
		if r.failed {
			return nil
		}
		list = append(list, api.And{Lit: n[0], A: n[1], B: n[2]})
	}
	return list
}

// names reads lines of names up to the end, or up to the line ahead of a comment.
func (r *reader) names() []api.Symbol {
	var list []api.Symbol
	for !r.failed && r.at < len(r.text) {
		line := r.line()
		if line == "c" {
			break
		}
		s, ok := symbol(line)
		r.failed = !ok
		list = append(list, s)
	}
	return list
}

// numbers reads a line of least to most numbers, each at most top.
func (r *reader) numbers(least, most, top int) []int {
	n, e := scan.Numbers(r.line(), least, most, top)
	r.failed = r.failed || e != api.OK
	return n
}

// line reads a line: an empty one if there is none.
func (r *reader) line() string {
	if r.failed {
		return ""
	}
	line, next, e := scan.Line(r.text, r.at)
	r.at, r.failed = next, e != api.OK
	return line
}

// symbol tells the name that a line writes, and whether it writes one.
func symbol(line string) (api.Symbol, bool) {
	if line == "" || strings.IndexByte(kinds, line[0]) < 0 {
		return api.Symbol{}, false
	}
	digits, name, ok := strings.Cut(line[1:], " ")
	index, e := scan.Number(digits, math.MaxInt32)
	if !ok || e != api.OK {
		return api.Symbol{}, false
	}
	return api.Symbol{Kind: line[0], Index: index, Name: name}, true
}
