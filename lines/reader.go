package lines

import (
	"math"
	"strings"

	"retorter/api"
	"retorter/delta"
	"retorter/scan"
)

// kinds are the bytes that a line of names may begin with.
const kinds = "ilobc"

// Reader goes through what writes a circuit. Once it has failed it reads nothing any more, so that it is enough to ask at the end.
type Reader struct {
	text   []byte
	at     int
	top    int // the greatest literal that may be
	failed bool
}

// Numbers reads a line of least to most literals, and tells most of them: those that are not written are 0.
func (r *Reader) Numbers(least, most int) []int {
	n, e := scan.Numbers(r.line(), least, most, r.top)
	r.Need(e == api.OK)
	return append(n, make([]int, most-len(n))...)
}

// Delta reads a number that is written in few bytes: 0 if there is none.
func (r *Reader) Delta() int {
	return next(r, delta.Get)
}

// Need lets the reader fail where what it has read is not right.
func (r *Reader) Need(right bool) {
	r.failed = r.failed || !right
}

// line reads a line: an empty one if there is none.
func (r *Reader) line() string {
	return next(r, scan.Line)
}

// next reads what get tells: the zero value if there is none.
func next[T any](r *Reader, get func(b []byte, at int) (T, int, api.Errno)) T {
	var none T
	if r.failed {
		return none
	}
	found, end, e := get(r.text, r.at)
	if e != api.OK {
		r.failed = true
		return none
	}
	r.at = end
	return found
}

// names reads lines of names up to the end, or up to the line ahead of a comment.
func (r *Reader) names() []api.Symbol {
	var list []api.Symbol
	for !r.failed && r.at < len(r.text) {
		line := r.line()
		if line == "c" {
			break
		}
		s, ok := symbol(line)
		r.Need(ok)
		list = append(list, s)
	}
	return list
}

// symbol tells the name that a line writes, and whether it writes one.
func symbol(line string) (api.Symbol, bool) {
	if line == "" || strings.IndexByte(kinds, line[0]) < 0 {
		return api.Symbol{}, false
	}
	digits, name, ok := strings.Cut(line[1:], " ")
	index, e := scan.Number(digits, math.MaxInt32)
	if !ok || e != api.OK {
		return api.Symbol{}, false
	}
	return api.Symbol{Kind: line[0], Index: index, Name: name}, true
}
