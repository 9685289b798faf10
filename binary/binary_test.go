package binary

import (
	"fmt"
	"slices"
	"strconv"
	"strings"
	"testing"

	"retorter/aig"
	"retorter/api"
)

// small has something of each kind, with names and a comment; two bytes of its Ands are a 10, which ends no line there.
const small = "aig 9 2 3 2 4 2 2\n19 6\n1 1\n4\n0\n17\n18\n7\n1\n5\n\x0a\x01\x0a\x03\x01\x06\x02\x10l2 z\ni1 a b\nc0 \xff\nc\nno line\n\n"

// smallCircuit is what small writes.
func smallCircuit() api.Circuit {
	return api.Circuit{
		Max:         9,
		Inputs:      []int{2, 4},
		Latches:     []api.Latch{{Lit: 6, Next: 19, Reset: 6}, {Lit: 8, Next: 1, Reset: 1}, {Lit: 10, Next: 4}},
		Outputs:     []int{0, 17},
		Bads:        []int{18, 7},
		Constraints: []int{1, 5},
		Ands:        []api.And{{Lit: 12, A: 2, B: 1}, {Lit: 14, A: 4, B: 1}, {Lit: 16, A: 15, B: 9}, {Lit: 18, A: 16, B: 0}},
		Names:       []api.Symbol{{Kind: 'l', Index: 2, Name: "z"}, {Kind: 'i', Index: 1, Name: "a b"}, {Kind: 'c', Index: 0, Name: "\xff"}},
	}
}

// full tells a circuit that has as much of everything as the limits allow.
func full() api.Circuit {
	c := api.Circuit{Max: 2*api.MaxPorts + api.MaxAnds}
	for i := range api.MaxPorts {
		lit := 2 * (api.MaxPorts + 1 + i)
		c.Inputs = append(c.Inputs, 2+2*i)
		c.Latches = append(c.Latches, api.Latch{Lit: lit, Next: 2*c.Max + 1 - i, Reset: []int{0, 1, lit}[i%3]})
		c.Outputs = append(c.Outputs, 2*c.Max-i)
		c.Bads = append(c.Bads, i)
		c.Constraints = append(c.Constraints, lit+1)
		for _, kind := range []byte("cbloi") {
			c.Names = append(c.Names, api.Symbol{Kind: kind, Index: i, Name: strings.Repeat("n", api.MaxName)})
		}
	}
	for i := range api.MaxAnds {
		lit := 2 * (2*api.MaxPorts + 1 + i)
		a := lit - 1 - i%200
		c.Ands = append(c.Ands, api.And{Lit: lit, A: a, B: a % (1 + i)})
	}
	return c
}

// row tells a line of numbers.
func row(list ...int) string {
	return strings.Trim(fmt.Sprint(list), "[]") + "\n"
}

// packed tells a number by 7 bits a byte.
func packed(n int) string {
	if n < 128 {
		return string([]byte{byte(n)})
	}
	return string([]byte{byte(128 + n%128)}) + packed(n/128)
}

// written tells the bytes of a circuit whose variables are in order, each number of its header and each Reset written out.
func written(c api.Circuit) string {
	s := "aig " + row(c.Max, len(c.Inputs), len(c.Latches), len(c.Outputs), len(c.Ands), len(c.Bads), len(c.Constraints))
	for _, l := range c.Latches {
		s += row(l.Next, l.Reset)
	}
	for _, n := range slices.Concat(c.Outputs, c.Bads, c.Constraints) {
		s += row(n)
	}
	for _, a := range c.Ands {
		s += packed(a.Lit-a.A) + packed(a.A-a.B)
	}
	for _, n := range c.Names {
		s += string(rune(n.Kind)) + strconv.Itoa(n.Index) + " " + n.Name + "\n"
	}
	return s
}

func checkRead(t *testing.T, s string, want api.Circuit, wantErr api.Errno) {
	t.Helper()
	if got, e := Read([]byte(s)); !aig.Same(got, want) || e != wantErr {
		t.Errorf("P601: Read(%.200q) = %.400s, %d; want %.400s, %d", s, fmt.Sprint(got), e, fmt.Sprint(want), wantErr)
	}
}

func checkErr(t *testing.T, want api.Errno, all ...string) {
	t.Helper()
	for _, s := range all {
		checkRead(t, s, api.Circuit{}, want)
	}
}

func TestP601ReadRight(t *testing.T) {
	checkRead(t, "aig 0 0 0 0 0\n", api.Circuit{}, api.OK)
	checkRead(t, "aig 0 0 0 0 0 0 0 0 0\n", api.Circuit{}, api.OK)
	checkRead(t, small, smallCircuit(), api.OK)
	checkRead(t, written(smallCircuit()), smallCircuit(), api.OK)
	checkRead(t, written(full()), full(), api.OK)
	checkRead(t, "aig 3 3 0 0 0\n", api.Circuit{Max: 3, Inputs: []int{2, 4, 6}}, api.OK)
	checkRead(t, "aig 0 0 0 1 0\n1\n", api.Circuit{Outputs: []int{1}}, api.OK)
	checkRead(t, "aig 0 0 0 0 0 1\n0\n", api.Circuit{Bads: []int{0}}, api.OK)
	checkRead(t, "aig 0 0 0 0 0 0 1\n0\n", api.Circuit{Constraints: []int{0}}, api.OK)
	checkRead(t, "aig 1 0 1 0 0\n3\n", api.Circuit{Max: 1, Latches: []api.Latch{{Lit: 2, Next: 3}}}, api.OK)
	checkRead(t, "aig 2 1 1 0 0\n2 4\n", api.Circuit{Max: 2, Inputs: []int{2}, Latches: []api.Latch{{Lit: 4, Next: 2, Reset: 4}}}, api.OK)
	checkRead(t, "aig 1 1 0 1 0 1 1\n0\n1\n3\n", api.Circuit{Max: 1, Inputs: []int{2}, Outputs: []int{0}, Bads: []int{1}, Constraints: []int{3}}, api.OK)
}

func TestP601Header(t *testing.T) {
	checkErr(t, api.ErrSyntax,
		"", "\n", "aig", "aig\n", "aig \n", "aig 0 0 0 0 0", "\naig 0 0 0 0 0\n", " aig 0 0 0 0 0\n", "aig  0 0 0 0 0\n", "aig 0 0 0 0 0 \n",
		"aig\t0 0 0 0 0\n", "aig0 0 0 0 0\n", "aig 0 0 0 0\n", "aig 0 0 0 0 0 0 0 0 0 0\n", "aig 0 0 0 0 0\r\n", "aig\n0 0 0 0 0\n",
		"aag 0 0 0 0 0\n", "AIG 0 0 0 0 0\n", "aigx 0 0 0 0 0\n", "ai 0 0 0 0 0\n", "0 0 0 0 0\n", "xaig 0 0 0 0 0\n",
		"aig 0 0 0 0 0 0 0 1\n", "aig 0 0 0 0 0 0 0 0 1\n", "aig 00 0 0 0 0\n", "aig -1 0 0 0 0\n", "aag 5001 0 0 0 0\n", "aig 5001 0 0 0 0",
	)
	// An error of ascii.Header is told as it is, and ahead of an M that is not right.
	checkErr(t, api.ErrLong,
		"aig 5001 0 0 0 0\n", "aig 65 65 0 0 0\n", "aig 65 0 65 0 0\n", "aig 0 0 0 65 0\n", "aig 2001 0 0 0 2001\n", "aig 0 0 0 0 0 65\n", "aig 0 0 0 0 0 0 65\n",
		"aig 2147483648 0 0 0 0\n", "aig 1 65 0 0 0\n", "aig 5001 0 0 0 0\nno name", "aig 18446744073709551616 0 0 0 0\n",
	)
}

func TestP601MaxIsTheSum(t *testing.T) {
	for _, head := range []string{
		"1 0 0 0 0", "0 1 0 0 0", "2 1 0 0 0", "3 1 1 0 0", "5000 0 0 0 0", "5000 64 64 0 2000", "2127 64 64 0 2000", "2129 64 64 0 2000",
		// None of the others belongs to the sum.
		"1 0 0 1 0", "1 0 0 0 0 1", "1 0 0 0 0 0 1",
	} {
		checkErr(t, api.ErrSyntax, "aig "+head+"\n", "aig "+head+"\n0\n", "aig "+head+"\n0\n0\n")
	}
	// What would be right with the sum that is there: a latch and an And of variables that are not.
	checkErr(t, api.ErrSyntax, "aig 2 0 1 0 0\n2\n", "aig 0 0 1 0 0\n0\n", "aig 2 0 0 0 1\n\x02\x00", "aig 0 0 0 0 1\n\x02\x00")
	checkRead(t, "aig 1 0 1 0 0\n0\n", api.Circuit{Max: 1, Latches: []api.Latch{{Lit: 2}}}, api.OK)
}

func TestP601EachBeginning(t *testing.T) {
	names := strings.Index(small, "l2 z")
	whole := map[int]int{names: 0, names + 5: 1, names + 12: 2, names + 17: 3}
	for n := range len(small) {
		want, e := api.Circuit{}, api.ErrSyntax
		if count, ok := whole[n]; ok || n >= names+19 {
			if !ok {
				count = 3
			}
			want, e = smallCircuit(), api.OK
			want.Names = want.Names[:count]
		}
		checkRead(t, small[:n], want, e)
	}
}

func TestP601LinesOfLatches(t *testing.T) {
	for _, line := range []string{"", " ", "0 0 0", "2 0 0", " 0", "0 ", "0  0", "00", "0 00", "-1", "+1", "x", "0 x", "0\r", "0\t0"} {
		checkErr(t, api.ErrSyntax, "aig 2 1 1 0 0\n"+line+"\n")
	}
	for _, line := range []string{"6", "7", "1000000", "4294967296", "18446744073709551616", strings.Repeat("9", 1000), "0 6", "0 4294967296", "0 18446744073709551617"} {
		checkErr(t, api.ErrSyntax, "aig 2 1 1 0 0\n"+line+"\n")
	}
	for next := range 6 {
		for reset := range 6 {
			want, e := api.Circuit{Max: 2, Inputs: []int{2}, Latches: []api.Latch{{Lit: 4, Next: next, Reset: reset}}}, api.OK
			if reset != 0 && reset != 1 && reset != 4 {
				want, e = api.Circuit{}, api.ErrSyntax
			}
			checkRead(t, "aig 2 1 1 0 0\n"+row(next, reset), want, e)
		}
	}
}

func TestP601LinesOfPorts(t *testing.T) {
	for _, head := range []string{"aig 1 1 0 1 0\n", "aig 1 1 0 0 0 1\n", "aig 1 1 0 0 0 0 1\n"} {
		for _, line := range []string{"", " ", "0 0", " 0", "0 ", "00", "-1", "x", "0\r", "4", "5", "4294967296", "18446744073709551616", strings.Repeat("9", 1000)} {
			checkErr(t, api.ErrSyntax, head+line+"\n")
		}
		checkErr(t, api.ErrSyntax, head, head+"0", head+"0\n0\n")
		for n := range 4 {
			if _, e := Read([]byte(head + row(n))); e != api.OK {
				t.Errorf("P601: Read of %q and %d: error %d", head, n, e)
			}
		}
	}
}

func TestP601AllShortAnds(t *testing.T) {
	for first := range 256 {
		for second := range 256 {
			want, e := api.Circuit{}, api.ErrSyntax
			if first > 0 && first <= 6 && second <= 6-first {
				want, e = api.Circuit{Max: 3, Inputs: []int{2, 4}, Ands: []api.And{{Lit: 6, A: 6 - first, B: 6 - first - second}}}, api.OK
			}
			checkRead(t, "aig 3 2 0 0 1\n"+string([]byte{byte(first), byte(second)}), want, e)
		}
	}
}

func TestP601NumbersOfAnds(t *testing.T) {
	const head = "aig 1 0 0 0 1\n"
	want := api.Circuit{Max: 1, Ands: []api.And{{Lit: 2, A: 1, B: 0}}}
	// A number may be longer than it must be, up to five bytes.
	for _, first := range []string{"\x01", "\x81\x00", "\x81\x80\x00", "\x81\x80\x80\x00", "\x81\x80\x80\x80\x00"} {
		for _, second := range []string{"\x01", "\x81\x00", "\x81\x80\x80\x80\x00"} {
			checkRead(t, head+first+second, want, api.OK)
			checkErr(t, api.ErrSyntax, head+first, head+first+second[:len(second)-1], head+first+second+"\x00")
		}
	}
	long := "\x81\x80\x80\x80\x80\x00"
	above := "\x81\x80\x80\x80\x08"        // 2^31 and 1
	wraps := "\x81\x80\x80\x80\x10"        // 2^32 and 1
	greatest := "\xff\xff\xff\xff\x07"     // 2^31 - 1
	ones := "\xff\xff\xff\xff\xff\xff\xff" // no number, however it goes on
	for _, wrong := range []string{long, above, wraps, greatest, ones, "\x80", "\x80\x80\x80\x80", ""} {
		checkErr(t, api.ErrSyntax, head+wrong+"\x01", head+"\x01"+wrong, head+wrong)
	}
	checkErr(t, api.ErrSyntax, head+"\x00\x00", head+"\x00\x01", head+"\x03\x00", head+"\x02\x01", head+"\x01\x02", head+"\x80\x00\x00")
}

func TestP601AndsOfManyBytes(t *testing.T) {
	c := full()
	c.Names = nil
	last := &c.Ands[len(c.Ands)-1]
	for _, a := range []int{0, 1, last.Lit - 1, last.Lit - 10, last.Lit - 127, last.Lit - 128, last.Lit - 105, last.Lit - 99, 2 * api.MaxPorts} {
		for _, b := range []int{0, a, max(0, a-10), max(0, a-127), max(0, a-128), a / 2} {
			last.A, last.B = a, b
			checkRead(t, written(c), c, api.OK)
		}
	}
	// One step too far, at both numbers.
	body := written(c)
	body = body[:len(body)-len(packed(last.Lit-last.A)+packed(last.A-last.B))]
	checkRead(t, body+packed(last.Lit)+packed(0), with(c, 0, 0), api.OK)
	checkErr(t, api.ErrSyntax, body+packed(last.Lit+1)+packed(0), body+packed(last.Lit)+packed(1), body+packed(1)+packed(last.Lit), body+packed(0)+packed(0))
	checkRead(t, body+packed(1)+packed(last.Lit-1), with(c, last.Lit-1, 0), api.OK)
}

// with tells c with other sides of its last And.
func with(c api.Circuit, a, b int) api.Circuit {
	c.Ands = slices.Clone(c.Ands)
	end := len(c.Ands) - 1
	c.Ands[end].A, c.Ands[end].B = a, b
	return c
}

// named tells the circuit of namedHead, with names.
func named(names ...api.Symbol) api.Circuit {
	return api.Circuit{Max: 4, Inputs: []int{2, 4}, Latches: []api.Latch{{Lit: 6}}, Outputs: []int{1}, Bads: []int{0}, Constraints: []int{1}, Ands: []api.And{{Lit: 8, A: 6, B: 4}}, Names: names}
}

const namedHead = "aig 4 2 1 1 1 1 1\n0\n1\n0\n1\n\x02\x02"

func TestP601Names(t *testing.T) {
	long := strings.Repeat("n", api.MaxName)
	for _, x := range []struct {
		tail  string
		names []api.Symbol
	}{
		{"", nil},
		{"i0 a\n", []api.Symbol{{Kind: 'i', Name: "a"}}},
		{"c0 k\nb0 j\no0 i\nl0 h\ni1 g\ni0 f\n", []api.Symbol{{Kind: 'c', Name: "k"}, {Kind: 'b', Name: "j"}, {Kind: 'o', Name: "i"}, {Kind: 'l', Name: "h"}, {Kind: 'i', Index: 1, Name: "g"}, {Kind: 'i', Name: "f"}}},
		{"i0  \n", []api.Symbol{{Kind: 'i', Name: " "}}},
		{"i0  a  b \n", []api.Symbol{{Kind: 'i', Name: " a  b "}}},
		{"i0 c\nc\n", []api.Symbol{{Kind: 'i', Name: "c"}}},
		{"i0 \x7f\x80\xff\n", []api.Symbol{{Kind: 'i', Name: "\x7f\x80\xff"}}},
		{"i0 " + long + "\n", []api.Symbol{{Kind: 'i', Name: long}}},
	} {
		checkRead(t, namedHead+x.tail, named(x.names...), api.OK)
	}
	for _, tail := range []string{
		"\n", " \n", "i\n", "i0\n", "i0 \n", "i 0 a\n", "i00 a\n", "i01 a\n", "i-0 a\n", "ix a\n", "i a\n", " i0 a\n", "i0\ta\n", "0 a\n", "ii0 a\n", "\ni0 a\n",
		"x0 a\n", "I0 a\n", "j0 a\n", "f0 a\n", "a0 a\n", "\x00\n", "\x00", "i0 a", "i0 a\ni1 b", "i2 a\n", "l1 a\n", "o1 a\n", "b1 a\n", "c1 a\n",
		"i2147483647 a\n", "i2147483648 a\n", "i4294967296 a\n", "i18446744073709551616 a\n", "i0 a\x1f\n", "i0 a\tb\n", "i0 a\r\n", "i0 \x00\n", "i0 " + long + "n\n",
		"i0 a\n\n", "i0 a\n\x02\x02", strings.Repeat("i0 a\n", 7), strings.Repeat("i0 a\n", 20000),
	} {
		checkErr(t, api.ErrSyntax, namedHead+tail)
	}
	checkErr(t, api.ErrTwice, namedHead+"i0 a\ni0 a\n", namedHead+"i0 a\ni1 b\nc0 k\nc0 l\n", namedHead+strings.Repeat("i0 a\n", 6))
	// What is no name is told ahead of a name that is there twice.
	checkErr(t, api.ErrSyntax, namedHead+"i0 a\ni0 a\nx\n", namedHead+"i0 a\ni0 a\nc", namedHead+"i0 a\ni0 a\nl9 a\n")
}

func TestP601Comment(t *testing.T) {
	for _, tail := range []string{"c\n", "c\n\n", "c\nx", "c\n\x00\xff", "c\ni0 a\n", "c\nc", "c\n" + small} {
		checkRead(t, "aig 0 0 0 0 0\n"+tail, api.Circuit{}, api.OK)
		checkRead(t, namedHead+tail, named(), api.OK)
	}
	for _, tail := range []string{"c", "c \n", "cc\n", "c\r\n", "C\n", " c\n", "c x\n", "\nc\n", "comment\n"} {
		checkErr(t, api.ErrSyntax, "aig 0 0 0 0 0\n"+tail, namedHead+tail)
	}
	checkErr(t, api.ErrSyntax, "c\naig 0 0 0 0 0\n", "aig 1 0 1 0 0\nc\n0\n", "aig 1 0 0 0 1\nc\n\x02\x00")
}

func TestP601Long(t *testing.T) {
	const head = "aig 0 0 0 0 0\nc\n"
	checkRead(t, head+strings.Repeat("z", api.MaxBytes-len(head)), api.Circuit{}, api.OK)
	checkErr(t, api.ErrLong, head+strings.Repeat("z", api.MaxBytes-len(head)+1), strings.Repeat("z", api.MaxBytes+1), strings.Repeat("\n", 4*api.MaxBytes))
	checkErr(t, api.ErrSyntax, strings.Repeat("z", api.MaxBytes), strings.Repeat("\n", api.MaxBytes), "aig "+strings.Repeat("9", api.MaxBytes-4))
	checkErr(t, api.ErrLong, "aig "+strings.Repeat("9", api.MaxBytes-13)+" 0 0 0 0\n")
}
