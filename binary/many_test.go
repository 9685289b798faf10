package binary

import (
	"regexp"
	"slices"
	"strconv"
	"strings"
	"testing"

	"retorter/aig"
	"retorter/api"
	"retorter/ascii"
)

// lot tells numbers that look like chance, the same ones each time.
type lot uint64

func (l *lot) next(n int) int {
	*l = *l*6364136223846793005 + 1442695040888963407
	return int(uint64(*l) >> 33 % uint64(n))
}

// list tells up to three numbers below n.
func (l *lot) list(n int) []int {
	all := make([]int, l.next(4))
	for i := range all {
		all[i] = l.next(n)
	}
	return all
}

// circuit tells a circuit whose variables are in order; its names may be wrong.
func (l *lot) circuit() api.Circuit {
	inputs, latches, ands := l.next(4), l.next(4), l.next(5)
	if l.next(4) == 0 {
		ands += 90
	}
	c := api.Circuit{Max: inputs + latches + ands}
	for v := 1; v <= c.Max; v++ {
		lit := 2 * v
		switch {
		case v <= inputs:
			c.Inputs = append(c.Inputs, lit)
		case v <= inputs+latches:
			c.Latches = append(c.Latches, api.Latch{Lit: lit, Next: l.next(2*c.Max + 2), Reset: []int{0, 1, lit}[l.next(3)]})
		default:
			a := l.next(lit)
			c.Ands = append(c.Ands, api.And{Lit: lit, A: a, B: l.next(a + 1)})
		}
	}
	c.Outputs, c.Bads, c.Constraints = l.list(2*c.Max+2), l.list(2*c.Max+2), l.list(2*c.Max+2)
	for range l.next(3) {
		c.Names = append(c.Names, api.Symbol{Kind: "ilobc"[l.next(5)], Index: l.next(3), Name: strings.Repeat("x ", 1+l.next(3))})
	}
	return c
}

// damaged tells bytes of which some are turned, put in or taken out.
func (l *lot) damaged(s string) string {
	at := l.next(len(s))
	with := []string{"0", "1", "9", " ", "\n", "c\n", "\nc\n", "i0 a\n", "x", "\x00", "\x01", "\x80", "\xff", ""}[l.next(14)]
	return s[:at] + with + s[min(len(s), at+l.next(3)):]
}

var (
	oneNumber  = regexp.MustCompile(`^(0|[1-9][0-9]{0,8})()\n`)
	twoNumbers = regexp.MustCompile(`^(0|[1-9][0-9]{0,8})(?: (0|[1-9][0-9]{0,8}))?\n`)
	andNumber  = regexp.MustCompile(`(?s)^[\x{80}-\x{ff}]{0,4}[\x{00}-\x{7f}]`)
	nameLine   = regexp.MustCompile(`^([ilobc])(0|[1-9][0-9]{0,8}) ([^\n]*)\n`)
)

// left is what is still to be read, a rune for each byte, so that regular expressions see bytes.
type left struct {
	s   string
	bad bool
}

// cut takes what the expression finds at the beginning.
func (r *left) cut(e *regexp.Regexp) []string {
	m := e.FindStringSubmatch(r.s)
	if m == nil || r.bad {
		r.bad = true
		return make([]string, 1+e.NumSubexp())
	}
	r.s = r.s[len(m[0]):]
	return m
}

// line takes a line of one number or of two, each at most top.
func (r *left) line(e *regexp.Regexp, top int) (int, int) {
	m := r.cut(e)
	one, _ := strconv.Atoi(m[1])
	two, _ := strconv.Atoi(m[2])
	r.bad = r.bad || one > top || two > top
	return one, two
}

// packed takes a number of an And.
func (r *left) packed() int {
	n := 0
	list := []rune(r.cut(andNumber)[0])
	slices.Reverse(list)
	for _, c := range list {
		n = n*128 + int(c)%128
	}
	return n
}

// ports takes count lines of one number each.
func (r *left) ports(count, top int) []int {
	var list []int
	for range count {
		n, _ := r.line(oneNumber, top)
		list = append(list, n)
	}
	return list
}

// names takes the names up to a comment or the end.
func (r *left) names() []api.Symbol {
	var list []api.Symbol
	for !r.bad && r.s != "" && !strings.HasPrefix(r.s, "c\n") {
		m := r.cut(nameLine)
		index, _ := strconv.Atoi(m[2])
		list = append(list, api.Symbol{Kind: (m[1] + "?")[0], Index: index, Name: asBytes(m[3])})
	}
	return list
}

// asBytes tells the bytes of which each is a rune in s.
func asBytes(s string) string {
	var b []byte
	for _, c := range s {
		b = append(b, byte(c))
	}
	return string(b)
}

// asRunes tells each byte of s as a rune.
func asRunes(s string) string {
	var list []rune
	for _, c := range []byte(s) {
		list = append(list, rune(c))
	}
	return string(list)
}

// byHand tells what Read is to tell of few bytes.
func byHand(s string) (api.Circuit, api.Errno) {
	first, rest, ok := strings.Cut(s, "\n")
	if !ok || !strings.HasPrefix(first, "aig ") {
		return api.Circuit{}, api.ErrSyntax
	}
	h, e := ascii.Header(first[4:])
	if e != api.OK {
		return api.Circuit{}, e
	}
	c := api.Circuit{Max: h[0]}
	top := 2*h[0] + 1
	r := &left{s: asRunes(rest), bad: h[0]-h[1]-h[2] != h[4]}
	for v := 1; v <= h[1]; v++ {
		c.Inputs = append(c.Inputs, v+v)
	}
	for v := h[1] + 1; v <= h[1]+h[2]; v++ {
		next, reset := r.line(twoNumbers, top)
		c.Latches = append(c.Latches, api.Latch{Lit: v + v, Next: next, Reset: reset})
	}
	c.Outputs, c.Bads, c.Constraints = r.ports(h[3], top), r.ports(h[5], top), r.ports(h[6], top)
	for v := h[1] + h[2] + 1; v <= h[1]+h[2]+h[4]; v++ {
		less := r.packed()
		a := v + v - less
		b := a - r.packed()
		r.bad = r.bad || less == 0 || a < 0 || b < 0
		c.Ands = append(c.Ands, api.And{Lit: v + v, A: a, B: b})
	}
	c.Names = r.names()
	if r.bad {
		return api.Circuit{}, api.ErrSyntax
	}
	switch e := aig.Check(c); e {
	case api.OK:
		return c, e
	case api.ErrTwice:
		return api.Circuit{}, e
	}
	return api.Circuit{}, api.ErrSyntax
}

func TestP601ManyCircuits(t *testing.T) {
	l := lot(6)
	seen := map[api.Errno]int{}
	for range 5000 {
		s := written(l.circuit())
		for range 6 {
			want, e := byHand(s)
			checkRead(t, s, want, e)
			seen[e]++
			s = l.damaged(s)
		}
	}
	for _, e := range []api.Errno{api.OK, api.ErrSyntax, api.ErrTwice} {
		if seen[e] < 20 {
			t.Errorf("P601: only %d of all are such of error %d", seen[e], e)
		}
	}
}
