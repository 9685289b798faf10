package ascii

import (
	"bytes"
	"fmt"
	"math/big"
	"reflect"
	"regexp"
	"slices"
	"strconv"
	"strings"
	"testing"

	"retorter/aig"
	"retorter/api"
)

// small is a text with something of each kind, its Ands not in turn, with names and a comment.
const small = "aag 20 2 3 2 4 2 2\n14\n6\n30 21 30\n4 1 1\n8 6\n0\n23\n20\n31\n1\n15\n20 22 25\n24 6 22\n22 7 30\n2 0 5\nl2 z\ni1 a b\nc0 \xff\nc\nno line\n\n"

// smallCircuit is what small writes.
func smallCircuit() api.Circuit {
	return api.Circuit{
		Max:         20,
		Inputs:      []int{14, 6},
		Latches:     []api.Latch{{Lit: 30, Next: 21, Reset: 30}, {Lit: 4, Next: 1, Reset: 1}, {Lit: 8, Next: 6}},
		Outputs:     []int{0, 23},
		Bads:        []int{20, 31},
		Constraints: []int{1, 15},
		Ands:        []api.And{{Lit: 20, A: 22, B: 25}, {Lit: 24, A: 6, B: 22}, {Lit: 22, A: 7, B: 30}, {Lit: 2, A: 0, B: 5}},
		Names:       []api.Symbol{{Kind: 'l', Index: 2, Name: "z"}, {Kind: 'i', Index: 1, Name: "a b"}, {Kind: 'c', Index: 0, Name: "\xff"}},
	}
}

// full tells a circuit that has as much of everything as the limits allow.
func full() api.Circuit {
	c := api.Circuit{Max: api.MaxVar}
	for i := range api.MaxPorts {
		c.Inputs = append(c.Inputs, 2+2*i)
		lit := 2*api.MaxVar - 2*i
		c.Latches = append(c.Latches, api.Latch{Lit: lit, Next: lit + 1, Reset: lit})
		c.Outputs = append(c.Outputs, i%2)
		c.Bads = append(c.Bads, 2+2*i)
		c.Constraints = append(c.Constraints, lit)
		for _, kind := range []byte("ilobc") {
			c.Names = append(c.Names, api.Symbol{Kind: kind, Index: i, Name: strings.Repeat("n", api.MaxName)})
		}
	}
	for i := range api.MaxAnds {
		c.Ands = append(c.Ands, api.And{Lit: 200 + 2*i, A: 2 + i%128, B: 199 + 2*i})
	}
	c.Ands[0].B = 2*api.MaxVar + 1
	return c
}

func row(list ...int) string {
	var words []string
	for _, n := range list {
		words = append(words, strconv.Itoa(n))
	}
	return strings.Join(words, " ") + "\n"
}

// written tells the text of a circuit, each number of its header and each Reset written out.
func written(c api.Circuit) string {
	s := "aag " + row(c.Max, len(c.Inputs), len(c.Latches), len(c.Outputs), len(c.Ands), len(c.Bads), len(c.Constraints))
	for _, n := range c.Inputs {
		s += row(n)
	}
	for _, l := range c.Latches {
		s += row(l.Lit, l.Next, l.Reset)
	}
	for _, n := range slices.Concat(c.Outputs, c.Bads, c.Constraints) {
		s += row(n)
	}
	for _, a := range c.Ands {
		s += row(a.Lit, a.A, a.B)
	}
	for _, n := range c.Names {
		s += string(n.Kind) + strconv.Itoa(n.Index) + " " + n.Name + "\n"
	}
	return s
}

func checkHeader(t *testing.T, s string, want []int, wantErr api.Errno) {
	t.Helper()
	if got, e := Header(s); !slices.Equal(got, want) || e != wantErr {
		t.Errorf("P501: Header(%.80q) = %v, %d; want %v, %d", s, got, e, want, wantErr)
	}
}

func TestP501HeaderRight(t *testing.T) {
	for _, x := range []struct {
		s    string
		want []int
	}{
		{"0 0 0 0 0", make([]int, 9)},
		{"1 2 3 4 5", []int{1, 2, 3, 4, 5, 0, 0, 0, 0}},
		{"1 2 3 4 5 6", []int{1, 2, 3, 4, 5, 6, 0, 0, 0}},
		{"1 2 3 4 5 6 7", []int{1, 2, 3, 4, 5, 6, 7, 0, 0}},
		{"1 2 3 4 5 6 7 0", []int{1, 2, 3, 4, 5, 6, 7, 0, 0}},
		{"1 2 3 4 5 6 7 0 0", []int{1, 2, 3, 4, 5, 6, 7, 0, 0}},
		{"0 64 64 64 2000 64 64 0 0", []int{0, 64, 64, 64, 2000, 64, 64, 0, 0}},
		{"5000 0 0 0 0 0 64", []int{5000, 0, 0, 0, 0, 0, 64, 0, 0}},
	} {
		checkHeader(t, x.s, x.want, api.OK)
	}
}

func TestP501HeaderSyntax(t *testing.T) {
	for _, s := range []string{
		"", " ", "0", "0 0 0 0", "0 0 0 0 0 0 0 0 0 0", " 0 0 0 0 0", "0 0 0 0 0 ", "0  0 0 0 0", "0 0 0 0 0\n", "0 0 0 0 0\r",
		"0 0 0 0 -1", "0 0 0 0 +1", "00 0 0 0 0", "0 0 0 0 01", "0 0 0 0 x", "0\t0 0 0 0", "0,0,0,0,0", "aag 0 0 0 0 0",
	} {
		checkHeader(t, s, nil, api.ErrSyntax)
	}
}

func TestP501HeaderLong(t *testing.T) {
	tops := []int{api.MaxVar, api.MaxPorts, api.MaxPorts, api.MaxPorts, api.MaxAnds, api.MaxPorts, api.MaxPorts}
	checkHeader(t, strings.TrimSpace(row(tops...)), append(slices.Clone(tops), 0, 0), api.OK)
	for i := range tops {
		for _, above := range []string{strconv.Itoa(tops[i] + 1), "1000000", "2147483647", "2147483648", "4294967296", "18446744073709551616", strings.Repeat("9", 10000)} {
			words := strings.Fields(strings.Repeat("0 ", len(tops)))
			words[i] = above
			checkHeader(t, strings.Join(words, " "), nil, api.ErrLong)
		}
	}
}

func TestP501JusticeAndFairness(t *testing.T) {
	for _, n := range []string{"1", "64", "65", "2147483647"} {
		checkHeader(t, "0 0 0 0 0 0 0 "+n, nil, api.ErrSyntax)
		checkHeader(t, "0 0 0 0 0 0 0 "+n+" 0", nil, api.ErrSyntax)
		checkHeader(t, "0 0 0 0 0 0 0 0 "+n, nil, api.ErrSyntax)
		checkHeader(t, "0 0 0 0 0 0 0 "+n+" "+n, nil, api.ErrSyntax)
	}
}

func TestP501WhichErrorIsFirst(t *testing.T) {
	// An error of scan.Numbers is ahead of J and F, and they are ahead of the limits.
	checkHeader(t, "0 0 0 0 0 0 0 1 2147483648", nil, api.ErrLong)
	checkHeader(t, "0 0 0 0 0 0 0 2147483648 1", nil, api.ErrLong)
	checkHeader(t, "0 0 0 0 0 0 0 0 2147483648", nil, api.ErrLong)
	checkHeader(t, "5001 65 65 65 2001 65 65 1", nil, api.ErrSyntax)
	checkHeader(t, "5001 65 65 65 2001 65 65 0 1", nil, api.ErrSyntax)
	checkHeader(t, "2147483647 0 0 0 0 0 0 1", nil, api.ErrSyntax)
	// Of several numbers the first that is wrong is told.
	checkHeader(t, "2147483648 x 0 0 0", nil, api.ErrLong)
	checkHeader(t, "x 2147483648 0 0 0", nil, api.ErrSyntax)
	checkHeader(t, "5001 0 0 0 x", nil, api.ErrSyntax)
	checkHeader(t, "2147483648 0 0 0", nil, api.ErrSyntax)
	checkHeader(t, "2147483648 0 0 0 0 0 0 0 0 0", nil, api.ErrSyntax)
}

// short tells the beginning of what a circuit prints as.
func short(c api.Circuit) string {
	s := fmt.Sprint(c)
	return s[:min(len(s), 400)]
}

func checkRead(t *testing.T, text string, want api.Circuit, wantErr api.Errno) {
	t.Helper()
	if got, e := Read([]byte(text)); !aig.Same(got, want) || e != wantErr {
		t.Errorf("P502: Read(%.200q) = %s, %d; want %s, %d", text, short(got), e, short(want), wantErr)
	}
}

func checkErr(t *testing.T, want api.Errno, texts ...string) {
	t.Helper()
	for _, s := range texts {
		checkRead(t, s, api.Circuit{}, want)
	}
}

func TestP502ReadRight(t *testing.T) {
	checkRead(t, "aag 0 0 0 0 0\n", api.Circuit{}, api.OK)
	checkRead(t, "aag 0 0 0 0 0 0 0 0 0\n", api.Circuit{}, api.OK)
	checkRead(t, "aag 5000 0 0 0 0\n", api.Circuit{Max: 5000}, api.OK)
	checkRead(t, small, smallCircuit(), api.OK)
	checkRead(t, written(smallCircuit()), smallCircuit(), api.OK)
	checkRead(t, written(full()), full(), api.OK)
	checkRead(t, "aag 0 0 0 1 0\n1\n", api.Circuit{Outputs: []int{1}}, api.OK)
	checkRead(t, "aag 0 0 0 0 0 1\n0\n", api.Circuit{Bads: []int{0}}, api.OK)
	checkRead(t, "aag 0 0 0 0 0 0 1\n0\n", api.Circuit{Constraints: []int{0}}, api.OK)
	checkRead(t, "aag 9 0 1 0 0\n18 19\n", api.Circuit{Max: 9, Latches: []api.Latch{{Lit: 18, Next: 19}}}, api.OK)
	checkRead(t, "aag 9 0 1 0 0\n18 0 0\n", api.Circuit{Max: 9, Latches: []api.Latch{{Lit: 18}}}, api.OK)
	checkRead(t, "aag 9 0 0 0 1\n2 0 1\n", api.Circuit{Max: 9, Ands: []api.And{{Lit: 2, A: 0, B: 1}}}, api.OK)
}

func TestP502Header(t *testing.T) {
	checkErr(t, api.ErrSyntax,
		"", "\n", "aag", "aag\n", "aag \n", "aag 0 0 0 0 0", "\naag 0 0 0 0 0\n", " aag 0 0 0 0 0\n", "aag  0 0 0 0 0\n", "aag 0 0 0 0 0 \n",
		"aag\t0 0 0 0 0\n", "aag0 0 0 0 0\n", "aag 0 0 0 0\n", "aag 0 0 0 0 0 0 0 0 0 0\n", "aag 0 0 0 0 0\r\n", "aag\n0 0 0 0 0\n",
		"aig 0 0 0 0 0\n", "AAG 0 0 0 0 0\n", "aagx 0 0 0 0 0\n", "aa 0 0 0 0 0\n", "0 0 0 0 0\n", "xaag 0 0 0 0 0\n",
		"aag 0 0 0 0 0 0 0 1\n", "aag 0 0 0 0 0 0 0 0 1\n", "aag 00 0 0 0 0\n", "aag -1 0 0 0 0\n", "aig 5001 0 0 0 0\n", "aag 5001 0 0 0 0",
	)
	checkErr(t, api.ErrLong,
		"aag 5001 0 0 0 0\n", "aag 0 65 0 0 0\n", "aag 0 0 65 0 0\n", "aag 0 0 0 65 0\n", "aag 0 0 0 0 2001\n", "aag 0 0 0 0 0 65\n", "aag 0 0 0 0 0 0 65\n",
		"aag 2147483648 0 0 0 0\n", "aag 5001 1 0 0 0\nno number\n", "aag 5001 0 0 0 0\nno name",
	)
}

func TestP502MissingLines(t *testing.T) {
	all := small[:strings.Index(small, "l2 z")]
	lines := strings.SplitAfter(all, "\n")
	for n := range len(lines) - 1 {
		head := strings.Join(lines[:n], "")
		checkErr(t, api.ErrSyntax, head, head+strings.TrimSuffix(lines[n], "\n"), head+"\n")
		// A line too many or too few shifts those behind it, and the last And takes a name for itself, or leaves a line behind.
		checkErr(t, api.ErrSyntax, head+strings.Join(lines[n+1:], ""), head+"\n"+strings.Join(lines[n:], ""))
	}
	checkErr(t, api.ErrSyntax, all+"2 0 5\n")
}

func TestP502LinesOfNumbers(t *testing.T) {
	checkErr(t, api.ErrSyntax,
		"aag 1 1 0 0 0\n2 2\n", "aag 1 1 0 0 0\n 2\n", "aag 1 1 0 0 0\n2 \n", "aag 1 1 0 0 0\n02\n", "aag 1 1 0 0 0\n-2\n", "aag 1 1 0 0 0\nx\n", "aag 1 1 0 0 0\n2\r\n",
		"aag 1 0 1 0 0\n2\n", "aag 1 0 1 0 0\n2 0 0 0\n", "aag 1 0 1 0 0\n2  0\n", "aag 1 0 1 0 0\n2 0 x\n",
		"aag 1 0 0 1 0\n0 0\n", "aag 1 0 0 0 0 1\n0 0\n", "aag 1 0 0 0 0 0 1\n0 0\n",
		"aag 1 0 0 0 1\n2 0\n", "aag 1 0 0 0 1\n2 0 0 0\n", "aag 1 0 0 0 1\n2\n", "aag 1 0 0 0 1\n2 0 00\n",
	)
}

func TestP502NumbersAboveTheGreatest(t *testing.T) {
	for _, n := range []string{"4", "5", "1000000", "4294967298", "18446744073709551618", strings.Repeat("9", 1000)} {
		checkErr(t, api.ErrSyntax,
			"aag 1 1 0 0 0\n"+n+"\n", "aag 1 0 1 0 0\n"+n+" 0\n", "aag 1 0 1 0 0\n2 "+n+"\n", "aag 1 0 1 0 0\n2 0 "+n+"\n",
			"aag 1 1 0 1 0\n2\n"+n+"\n", "aag 1 1 0 0 0 1\n2\n"+n+"\n", "aag 1 1 0 0 0 0 1\n2\n"+n+"\n",
			"aag 1 0 0 0 1\n"+n+" 0 0\n", "aag 1 0 0 0 1\n2 "+n+" 0\n", "aag 1 0 0 0 1\n2 0 "+n+"\n",
		)
	}
	checkRead(t, "aag 1 1 0 1 0 1 1\n2\n3\n3\n3\n", api.Circuit{Max: 1, Inputs: []int{2}, Outputs: []int{3}, Bads: []int{3}, Constraints: []int{3}}, api.OK)
}

func TestP502ErrorsOfCheck(t *testing.T) {
	checkErr(t, api.ErrSyntax,
		"aag 1 1 0 0 0\n3\n", "aag 1 1 0 0 0\n0\n", "aag 1 1 0 0 0\n1\n", "aag 1 0 1 0 0\n3 0\n", "aag 1 0 1 0 0\n0 0\n", "aag 1 0 0 0 1\n3 0 0\n", "aag 1 0 0 0 1\n0 0 0\n",
		"aag 1 0 1 0 0\n2 0 3\n", "aag 2 1 1 0 0\n4\n2 0 4\n",
	)
	checkErr(t, api.ErrTwice,
		"aag 1 2 0 0 0\n2\n2\n", "aag 1 1 1 0 0\n2\n2 0\n", "aag 1 1 0 0 1\n2\n2 0 0\n", "aag 1 0 2 0 0\n2 0\n2 0\n", "aag 1 0 1 0 1\n2 0\n2 0 0\n", "aag 1 0 0 0 2\n2 0 0\n2 0 0\n",
		"aag 2 1 1 0 0\n2\n4 0\ni0 a\ni0 b\n", "aag 9 2 0 1 0\n2\n2\n6\n",
	)
	checkErr(t, api.ErrNone,
		"aag 1 0 0 1 0\n2\n", "aag 1 0 0 1 0\n3\n", "aag 1 0 0 0 0 1\n2\n", "aag 1 0 0 0 0 0 1\n2\n", "aag 2 0 1 0 0\n2 4\n", "aag 2 0 0 0 1\n2 4 0\n", "aag 2 0 0 0 1\n2 0 5\n",
		"aag 3 0 0 0 2\n2 2 0\n4 6 0\n",
	)
	checkErr(t, api.ErrCycle,
		"aag 1 0 0 0 1\n2 2 1\n", "aag 1 0 0 0 1\n2 1 3\n", "aag 2 0 0 0 2\n2 4 1\n4 1 3\n",
	)
}

func TestP502SyntaxIsAheadOfCheck(t *testing.T) {
	for _, head := range []string{"aag 2 2 0 0 0\n2\n2\n", "aag 2 0 0 1 0\n2\n", "aag 2 0 0 0 2\n2 2 1\n4 0 0\n"} {
		for _, tail := range []string{"\n", "x0 a\n", "i0\n", "i0 a", "c"} {
			checkErr(t, api.ErrSyntax, head+tail)
		}
	}
}

func TestP502Names(t *testing.T) {
	const head = "aag 3 2 1 1 0 1 1\n2\n4\n6 0\n1\n0\n1\n"
	with := func(names ...api.Symbol) api.Circuit {
		return api.Circuit{Max: 3, Inputs: []int{2, 4}, Latches: []api.Latch{{Lit: 6}}, Outputs: []int{1}, Bads: []int{0}, Constraints: []int{1}, Names: names}
	}
	long := strings.Repeat("n", api.MaxName)
	for _, x := range []struct {
		tail  string
		names []api.Symbol
	}{
		{"", nil},
		{"i0 a\n", []api.Symbol{{Kind: 'i', Name: "a"}}},
		{"c0 k\nb0 j\no0 i\nl0 h\ni1 g\ni0 f\n", []api.Symbol{{Kind: 'c', Name: "k"}, {Kind: 'b', Name: "j"}, {Kind: 'o', Name: "i"}, {Kind: 'l', Name: "h"}, {Kind: 'i', Index: 1, Name: "g"}, {Kind: 'i', Name: "f"}}},
		{"i0  \n", []api.Symbol{{Kind: 'i', Name: " "}}},
		{"i0  a  b \n", []api.Symbol{{Kind: 'i', Name: " a  b "}}},
		{"i0 i0 a\n", []api.Symbol{{Kind: 'i', Name: "i0 a"}}},
		{"i0 c\nc\n", []api.Symbol{{Kind: 'i', Name: "c"}}},
		{"i0 \x7f\x80\xffé\n", []api.Symbol{{Kind: 'i', Name: "\x7f\x80\xffé"}}},
		{"i0 " + long + "\n", []api.Symbol{{Kind: 'i', Name: long}}},
	} {
		checkRead(t, head+x.tail, with(x.names...), api.OK)
	}
	for _, tail := range []string{
		"\n", " \n", "i\n", "i0\n", "i0 \n", "i 0 a\n", "i00 a\n", "i01 a\n", "i-0 a\n", "i+0 a\n", "ix a\n", "i a\n", " i0 a\n", "i0\ta\n", "0 a\n", "ii0 a\n",
		"x0 a\n", "I0 a\n", "j0 a\n", "f0 a\n", "a0 a\n", "\x00\n", "i0 a", "i0 a\ni1 b", "i2 a\n", "l1 a\n", "o1 a\n", "b1 a\n", "c1 a\n",
		"i2147483647 a\n", "i2147483648 a\n", "i4294967296 a\n", "i18446744073709551616 a\n", "i0 a\x1f\n", "i0 a\tb\n", "i0 a\r\n", "i0 \x00\n", "i0 " + long + "n\n",
		"i0 a\n\n", "i0 a\n2\n", strings.Repeat("i0 a\n", 7), strings.Repeat("i0 a\n", 20000),
	} {
		checkErr(t, api.ErrSyntax, head+tail)
	}
	checkErr(t, api.ErrTwice, head+"i0 a\ni0 a\n", head+"i0 a\ni1 b\nc0 k\nc0 l\n", head+strings.Repeat("i0 a\n", 6))
}

func TestP502Comment(t *testing.T) {
	const head = "aag 0 0 0 0 0\n"
	for _, tail := range []string{"c\n", "c\n\n", "c\nx", "c\n\x00\xff", "c\ni0 a\n", "c\nc", "c\n" + small} {
		checkRead(t, head+tail, api.Circuit{}, api.OK)
	}
	checkErr(t, api.ErrSyntax, head+"c", head+"c \n", head+"cc\n", head+"c\r\n", head+"C\n", head+" c\n", head+"c x\n", head+"\nc\n", head+"c0 x\n", head+"comment\n")
	checkErr(t, api.ErrSyntax, "c\n"+head, "aag 1 1 0 0 0\nc\n2\n")
}

func TestP502Long(t *testing.T) {
	const head = "aag 0 0 0 0 0\nc\n"
	checkRead(t, head+strings.Repeat("z", api.MaxBytes-len(head)), api.Circuit{}, api.OK)
	checkErr(t, api.ErrLong, head+strings.Repeat("z", api.MaxBytes-len(head)+1), strings.Repeat("z", api.MaxBytes+1), strings.Repeat("\n", 4*api.MaxBytes))
	checkErr(t, api.ErrSyntax, strings.Repeat("z", api.MaxBytes), strings.Repeat("\n", api.MaxBytes), "aag "+strings.Repeat("9", api.MaxBytes-4))
	checkErr(t, api.ErrLong, "aag "+strings.Repeat("9", api.MaxBytes-13)+" 0 0 0 0\n")
}

// lot tells numbers that look like chance, the same ones each time.
type lot uint64

func (l *lot) next(n int) int {
	*l = *l*6364136223846793005 + 1442695040888963407
	return int(uint64(*l) >> 33 % uint64(n))
}

// literals tells up to three literals up to top.
func (l *lot) literals(top int) []int {
	var list []int
	for range l.next(4) {
		list = append(list, l.next(top+1))
	}
	return list
}

// circuit tells a little circuit, of which some are right.
func (l *lot) circuit() api.Circuit {
	c := api.Circuit{Max: 3 + l.next(8)}
	top := 2*c.Max + 1
	lit := 0
	next := func() int { lit += 2; return lit }
	for range l.next(3) {
		c.Inputs = append(c.Inputs, next())
	}
	for range l.next(3) {
		n := next()
		c.Latches = append(c.Latches, api.Latch{Lit: n, Next: l.next(n + 2), Reset: []int{0, 1, n}[l.next(3)]})
	}
	for range l.next(4) {
		n := next()
		c.Ands = append(c.Ands, api.And{Lit: n, A: l.next(n), B: l.next(n)})
	}
	if len(c.Ands) > 0 && l.next(10) == 0 {
		c.Ands[0].A = lit
	}
	if lit+1 < top && l.next(4) > 0 {
		top = lit + 1
	}
	c.Outputs, c.Bads, c.Constraints = l.literals(top), l.literals(top), l.literals(top)
	for range l.next(3) {
		c.Names = append(c.Names, api.Symbol{Kind: "ilobc"[l.next(5)], Index: l.next(3), Name: strings.Repeat("x ", 1+l.next(3))})
	}
	return c
}

var (
	numberLine = regexp.MustCompile(`^(0|[1-9][0-9]*)( (0|[1-9][0-9]*))*$`)
	nameLine   = regexp.MustCompile(`(?s)^([ilobc])(0|[1-9][0-9]{0,8}) (.*)$`)
)

// fits tells whether a line writes that many numbers, up to top.
func fits(line string, least, most, top int) ([]int, bool) {
	if !numberLine.MatchString(line) {
		return nil, false
	}
	var list []int
	for _, w := range strings.Split(line, " ") {
		n, ok := new(big.Int).SetString(w, 10)
		if !ok || n.Cmp(big.NewInt(int64(top))) > 0 {
			return nil, false
		}
		list = append(list, int(n.Int64()))
	}
	return list, len(list) >= least && len(list) <= most
}

// byHandBody tells the circuit of lines behind a header, by regular expressions.
func byHandBody(h []int, lines []string) (api.Circuit, bool) {
	c := api.Circuit{Max: h[0]}
	for i, shape := range []struct{ count, least, most int }{{h[1], 1, 1}, {h[2], 2, 3}, {h[3], 1, 1}, {h[5], 1, 1}, {h[6], 1, 1}, {h[4], 3, 3}} {
		for range shape.count {
			if len(lines) == 0 {
				return c, false
			}
			n, ok := fits(lines[0], shape.least, shape.most, 2*c.Max+1)
			if !ok {
				return c, false
			}
			lines = lines[1:]
			switch n = append(n, 0); i {
			case 0:
				c.Inputs = append(c.Inputs, n[0])
			case 1:
				c.Latches = append(c.Latches, api.Latch{Lit: n[0], Next: n[1], Reset: n[2]})
			case 2:
				c.Outputs = append(c.Outputs, n[0])
			case 3:
				c.Bads = append(c.Bads, n[0])
			case 4:
				c.Constraints = append(c.Constraints, n[0])
			case 5:
				c.Ands = append(c.Ands, api.And{Lit: n[0], A: n[1], B: n[2]})
			}
		}
	}
	for _, line := range lines {
		m := nameLine.FindStringSubmatch(line)
		if m == nil {
			return c, false
		}
		index, _ := strconv.Atoi(m[2])
		c.Names = append(c.Names, api.Symbol{Kind: m[1][0], Index: index, Name: m[3]})
	}
	return c, true
}

// byHand tells what Read is to tell of a short text.
func byHand(text string) (api.Circuit, api.Errno) {
	first, rest, ok := strings.Cut(text, "\n")
	if !ok || !strings.HasPrefix(first, "aag ") {
		return api.Circuit{}, api.ErrSyntax
	}
	h, e := Header(first[4:])
	if e != api.OK {
		return api.Circuit{}, e
	}
	// A comment is cut off where its line is the first that may be one.
	lines := strings.SplitAfter(rest, "\n")
	body := h[1] + h[2] + h[3] + h[4] + h[5] + h[6]
	for i := body; i < len(lines); i++ {
		if lines[i] == "c\n" {
			lines = append(lines[:i], "")
			break
		}
	}
	if lines[len(lines)-1] != "" {
		return api.Circuit{}, api.ErrSyntax
	}
	lines = lines[:len(lines)-1]
	for i := range lines {
		lines[i] = strings.TrimSuffix(lines[i], "\n")
	}
	c, ok := byHandBody(h, lines)
	if !ok {
		return api.Circuit{}, api.ErrSyntax
	}
	switch e := aig.Check(c); e {
	case api.OK:
		return c, e
	case api.ErrTwice, api.ErrNone, api.ErrCycle:
		return api.Circuit{}, e
	}
	return api.Circuit{}, api.ErrSyntax
}

// damaged tells a text with a byte turned, put in or taken out.
func (l *lot) damaged(text string) string {
	at := l.next(len(text))
	with := []string{"0", "1", "2", "9", " ", "\n", "c", "i", "c\n", "\nc\n", "x", "\x00", ""}[l.next(13)]
	return text[:at] + with + text[min(len(text), at+l.next(3)):]
}

func TestP502ManyTexts(t *testing.T) {
	l := lot(5)
	seen := map[api.Errno]int{}
	for range 6000 {
		text := written(l.circuit())
		for range 6 {
			want, e := byHand(text)
			checkRead(t, text, want, e)
			seen[e]++
			text = l.damaged(text)
		}
	}
	for _, e := range []api.Errno{api.OK, api.ErrSyntax, api.ErrNone, api.ErrTwice, api.ErrCycle} {
		if seen[e] < 20 {
			t.Errorf("P502: of the texts only %d are such of error %d", seen[e], e)
		}
	}
}

func TestP503ArgumentsStay(t *testing.T) {
	for _, text := range []string{"", "aag", small, small[:40], "aag 0 0 0 0 0\n", "aag 2 2 0 0 0\n2\n2\n", strings.Repeat("z", api.MaxBytes+1)} {
		room := []byte(text + "\ni0 spare room\n")
		before := bytes.Clone(room)
		if _, e := Read(room[:len(text)]); !bytes.Equal(room, before) {
			t.Errorf("P503: Read (error %d) has changed %.80q", e, room)
		}
	}
}

func TestP503ReadStopsAtTheLength(t *testing.T) {
	room := []byte("aag 0 0 0 0 0\n\n")
	if c, e := Read(room[:14]); e != api.OK || !aig.Same(c, api.Circuit{}) {
		t.Errorf("P503: Read looks behind the end: %v, %d", c, e)
	}
	if _, e := Read(room[:13]); e != api.ErrSyntax {
		t.Errorf("P503: Read looks behind the end: %d", e)
	}
}

func TestP503AnswersAreNewMemory(t *testing.T) {
	b := []byte(small)
	c, _ := Read(b)
	for i := range b {
		b[i] = 'z'
	}
	if !reflect.DeepEqual(c, smallCircuit()) {
		t.Errorf("P503: Read has kept its argument: %v", c)
	}
}

// spoil writes over a list and its spare room.
func spoil(l []int) {
	l = l[:cap(l)]
	for i := range l {
		l[i] = 99
	}
}

func TestP503ListsOfAnAnswerShareNothing(t *testing.T) {
	lists := func(c api.Circuit) [][]int { return [][]int{c.Inputs, c.Outputs, c.Bads, c.Constraints} }
	want := lists(smallCircuit())
	for i := range want {
		c, _ := Read([]byte(small))
		got := lists(c)
		spoil(got[i])
		for j := range want {
			if i != j && !slices.Equal(got[j], want[j]) {
				t.Errorf("P503: lists %d and %d of an answer share memory", i, j)
			}
		}
	}
	h, _ := Header("1 2 3 4 5")
	spoil(h)
	checkHeader(t, "1 2 3 4 5", []int{1, 2, 3, 4, 5, 0, 0, 0, 0}, api.OK)
}

func TestP503NothingIsKept(t *testing.T) {
	for range 3 {
		checkRead(t, small, smallCircuit(), api.OK)
		checkErr(t, api.ErrSyntax, small[:40], "")
		checkErr(t, api.ErrCycle, "aag 1 0 0 0 1\n2 2 1\n")
		checkRead(t, "aag 0 0 0 0 0\n", api.Circuit{}, api.OK)
		checkHeader(t, "5001 0 0 0 0", nil, api.ErrLong)
		checkHeader(t, "1 2 3 4 5", []int{1, 2, 3, 4, 5, 0, 0, 0, 0}, api.OK)
	}
}
