package lines

import (
	"math"
	"strings"

	"retorter/api"
	"retorter/scan"
	"retorter/text"
)

// kinds are the bytes that a line of names may begin with.
const kinds = "ilobc"

// Reader goes through what writes a circuit.
type Reader struct {
	*text.Reader
	top int // the greatest literal that may be
}

// Numbers reads a line of least to most literals, and tells most of them: those that are not written are 0.
func (r *Reader) Numbers(least, most int) []int {
	n, e := scan.Numbers(r.Line(), least, most, r.top)
	r.Need(e == api.OK)
	return append(n, make([]int, most-len(n))...)
}

// names reads lines of names up to the end, or up to the line ahead of a comment.
func (r *Reader) names() []api.Symbol {
	var list []api.Symbol
	for !r.Ended() {
		line := r.Line()
		if line == "c" {
			break
		}
		s, ok := symbol(line)
		r.Need(ok)
		list = append(list, s)
	}
	return list
}

// symbol tells the name that a line writes, and whether it writes one.
func symbol(line string) (api.Symbol, bool) {
	if line == "" || strings.IndexByte(kinds, line[0]) < 0 {
		return api.Symbol{}, false
	}
	digits, name, ok := strings.Cut(line[1:], " ")
	index, e := scan.Number(digits, math.MaxInt32)
	if !ok || e != api.OK {
		return api.Symbol{}, false
	}
	return api.Symbol{Kind: line[0], Index: index, Name: name}, true
}
