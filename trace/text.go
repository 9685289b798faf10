package trace

import (
	"strings"

	"retorter/api"
	"retorter/scan"
	"retorter/text"
)

// What stands in a trace's text beside its numbers and bools.
const (
	version = "1"
	badKind = "b"
	end     = "."
)

// digits tells bools as 0 and 1.
func digits(list []bool) string {
	line := make([]byte, len(list))
	for i, x := range list {
		line[i] = '0'
		if x {
			line[i] = '1'
		}
	}
	return string(line)
}

// reader goes through a trace's text.
type reader struct{ *text.Reader }

// bad reads the line of a bad.
func (r *reader) bad() int {
	number, ok := strings.CutPrefix(r.Line(), badKind)
	bad, e := scan.Number(number, api.MaxPorts-1)
	r.Need(ok && e == api.OK)
	return bad
}

// steps reads the lines of Inputs and the end behind them, and tells how many they are. Those above MaxSteps are read, but not kept: what is wrong in them, or behind them, is to be told ahead of their number.
func (r *reader) steps(inputs int) ([][]bool, int) {
	var all [][]bool
	count := 0
	for line := r.Line(); line != end && !r.Failed(); line = r.Line() {
		row := r.bools(line, inputs)
		if count < api.MaxSteps {
			all = append(all, row)
		}
		count++
	}
	r.Need(count > 0)
	return all, count
}

// bools tells the bools that a line writes, which must be n.
func (r *reader) bools(line string, n int) []bool {
	r.Need(len(line) == n && strings.Trim(line, "01") == "")
	if r.Failed() {
		return nil
	}
	list := make([]bool, n)
	for i := range list {
		list[i] = line[i] == '1'
	}
	return list
}
