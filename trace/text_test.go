package trace

import (
	"math"
	"slices"
	"strconv"
	"strings"
	"testing"

	"retorter/api"
)

func TestP1102Write(t *testing.T) {
	for _, x := range []struct {
		bad  int
		t    api.Trace
		want string
	}{
		{0, of("", ""), "1\nb0\n\n\n.\n"},
		{0, api.Trace{}, "1\nb0\n\n.\n"},
		{3, of("10", "011", "100"), "1\nb3\n10\n011\n100\n.\n"},
		{3, of("", "1", "0"), "1\nb3\n\n1\n0\n.\n"},
		{63, of("1", "", "", ""), "1\nb63\n1\n\n\n\n.\n"},
		{64, of("1"), "1\nb64\n1\n.\n"},
		{math.MaxInt, of("0"), "1\nb" + strconv.Itoa(math.MaxInt) + "\n0\n.\n"},
		{-1, of("0"), "1\nb0\n0\n.\n"},
		{math.MinInt, of("0"), "1\nb0\n0\n.\n"},
		{10, of("0", "1", "", "01010"), "1\nb10\n0\n1\n\n01010\n.\n"},
	} {
		if got := Write(x.bad, x.t); got != x.want {
			t.Errorf("P1102: Write(%d, %v) = %q; want %q", x.bad, x.t, got, x.want)
		}
	}
}

// checkRead asks for Read, which beside an error is to tell nothing.
func checkRead(t *testing.T, s string, latches, inputs, bad int, want api.Trace, e api.Errno) {
	t.Helper()
	if e != api.OK {
		bad, want = 0, api.Trace{}
	}
	if n, got, f := Read(s, latches, inputs); n != bad || !alike(got, want) || f != e {
		t.Errorf("P1102: Read(%.100q, %d, %d) = %d, %s, %d; want %d, %s, %d", s, latches, inputs, n, short(got), f, bad, short(want), e)
	}
}

func TestP1102ReadOfWrite(t *testing.T) {
	l := lot(3)
	for range 3000 {
		latches, inputs, bad := l.next(6), l.next(6), l.next(api.MaxPorts)
		tr := api.Trace{Start: l.bools(latches)}
		for range 1 + l.next(6) {
			tr.Inputs = append(tr.Inputs, l.bools(inputs))
		}
		s := Write(bad, tr)
		checkRead(t, s, latches, inputs, bad, tr, api.OK)
		for _, off := range [][2]int{{1, 0}, {-1, 0}, {0, 1}, {0, -1}, {1, -1}} {
			checkRead(t, s, latches+off[0], inputs+off[1], 0, api.Trace{}, api.ErrSyntax)
		}
	}
	// More bools than a circuit may have Latches or Inputs are no error of Read's.
	wide := api.Trace{Start: l.bools(1000), Inputs: [][]bool{l.bools(5000), l.bools(5000)}}
	checkRead(t, Write(1, wide), 1000, 5000, 1, wide, api.OK)
}

func TestP1102ReadNumbers(t *testing.T) {
	for bad := range api.MaxPorts {
		checkRead(t, "1\nb"+strconv.Itoa(bad)+"\n1\n0\n.\n", 1, 1, bad, of("1", "0"), api.OK)
	}
	for _, bad := range []string{"", " ", "64", "65", "100", "063", "00", "01", "-1", "+1", "1 ", " 1", "1x", "x", "0x1", "1_0", "4294967296", "18446744073709551616", "18446744073709551617", strings.Repeat("9", 1000), "1\r", "b1", "\xd9\xa1"} {
		checkRead(t, "1\nb"+bad+"\n1\n0\n.\n", 1, 1, 0, api.Trace{}, api.ErrSyntax)
	}
	for _, line := range []string{"", "3", "B3", "c3", "j3", "f3", "bb3", " b3", "b 3", "b3 b3", "1b3"} {
		checkRead(t, "1\n"+line+"\n1\n0\n.\n", 1, 1, 0, api.Trace{}, api.ErrSyntax)
	}
	for _, line := range []string{"", "0", "2", "x", "11", "01", " 1", "1 ", "1\r", "b3", "sat"} {
		checkRead(t, line+"\nb3\n1\n0\n.\n", 1, 1, 0, api.Trace{}, api.ErrSyntax)
	}
}

func TestP1102ReadCounts(t *testing.T) {
	const s = "1\nb3\n10\n011\n.\n"
	checkRead(t, s, 2, 3, 3, of("10", "011"), api.OK)
	for _, latches := range []int{0, 1, 2, 3, 4, -1, -2, math.MaxInt, math.MinInt, 1 << 32, 1<<32 + 2} {
		for _, inputs := range []int{0, 1, 2, 3, 4, -1, -3, math.MaxInt, math.MinInt, 1 << 32, 1<<32 + 3} {
			if latches != 2 || inputs != 3 {
				checkRead(t, s, latches, inputs, 0, api.Trace{}, api.ErrSyntax)
			}
		}
	}
	for _, n := range []int{-1, math.MinInt} {
		checkRead(t, "1\nb0\n\n\n.\n", n, 0, 0, api.Trace{}, api.ErrSyntax)
		checkRead(t, "1\nb0\n\n\n.\n", 0, n, 0, api.Trace{}, api.ErrSyntax)
		checkRead(t, "1\nb0\n\n.\n", 0, n, 0, api.Trace{}, api.ErrSyntax)
	}
}

// byHandRead is P1102's Read told again for texts of few steps: whether a text is one.
func byHandRead(s string, latches, inputs int) bool {
	lines := strings.Split(s, "\n")
	n := len(lines)
	if n < 6 || lines[n-1] != "" || lines[n-2] != "." || lines[0] != "1" {
		return false
	}
	bad := -1
	for i := range api.MaxPorts {
		if lines[1] == "b"+strconv.Itoa(i) {
			bad = i
		}
	}
	for i, line := range lines[2 : n-2] {
		want := inputs
		if i == 0 {
			want = latches
		}
		if strings.Count(line, "0")+strings.Count(line, "1") != want || len(line) != want {
			return false
		}
	}
	return bad >= 0
}

func TestP1102ReadOfWhatIsNearlyRight(t *testing.T) {
	const bytes = "01b.2\n \r-+/:c\x00\x80"
	right := 0
	for _, x := range []struct {
		s               string
		latches, inputs int
	}{{"1\nb3\n10\n011\n100\n.\n", 2, 3}, {"1\nb0\n\n\n.\n", 0, 0}, {"1\nb63\n1\n\n\n.\n", 1, 0}, {"1\nb10\n\n1\n0\n.\n", 0, 1}} {
		var all []string
		for i := range len(x.s) + 1 {
			all = append(all, x.s[:i], x.s[i:])
			for j := i; j <= len(x.s); j++ {
				all = append(all, x.s[:i]+x.s[j:])
			}
			for _, b := range []byte(bytes) {
				all = append(all, x.s[:i]+string([]byte{b})+x.s[i:])
				if i < len(x.s) {
					all = append(all, x.s[:i]+string([]byte{b})+x.s[i+1:])
				}
			}
			for j := range len(x.s) + 1 {
				all = append(all, x.s[:i]+x.s[j:])
			}
		}
		for _, s := range append(all, x.s+x.s, x.s+"\n", x.s+".\n", x.s+"\x00", "\n"+x.s) {
			want := api.ErrSyntax
			if byHandRead(s, x.latches, x.inputs) {
				want = api.OK
				right++
			}
			bad, got, e := Read(s, x.latches, x.inputs)
			if e != want || e != api.OK && (bad != 0 || len(got.Start)+len(got.Inputs) > 0) {
				t.Errorf("P1102: Read of %q: %d, %v, %d; want %d", s, bad, got, e, want)
			}
			// What is read is what is written.
			if e == api.OK && Write(bad, got) != s {
				t.Errorf("P1102: Read of %q: %d, %v", s, bad, got)
			}
		}
	}
	if right < 50 {
		t.Errorf("P1102: only %d texts were right", right)
	}
}

func TestP1102ReadLong(t *testing.T) {
	steps := func(n int, row string) string { return strings.Repeat(row+"\n", n) }
	long := of("10", "011")
	long.Inputs = slices.Repeat(long.Inputs, api.MaxSteps)
	const head = "1\nb9\n10\n"
	checkRead(t, head+steps(api.MaxSteps, "011")+".\n", 2, 3, 9, long, api.OK)
	checkRead(t, head+steps(api.MaxSteps+1, "011")+".\n", 2, 3, 0, api.Trace{}, api.ErrLong)
	checkRead(t, head+steps(3*api.MaxSteps, "011")+".\n", 2, 3, 0, api.Trace{}, api.ErrLong)
	checkRead(t, "1\nb0\n\n"+steps(api.MaxSteps+1, "")+".\n", 0, 0, 0, api.Trace{}, api.ErrLong)
	// What is wrong otherwise is told ahead of what is too long.
	for _, x := range []string{
		head + steps(api.MaxSteps+1, "011"),
		head + steps(api.MaxSteps+1, "011") + ".",
		head + steps(api.MaxSteps+1, "011") + ".\n.\n",
		head + steps(api.MaxSteps+1, "011") + ".\n\n",
		head + steps(api.MaxSteps+1, "011") + "x\n.\n",
		head + steps(api.MaxSteps, "011") + "01\n.\n",
		head + steps(api.MaxSteps+1, "011") + "0111\n.\n",
		head + "01\n" + steps(api.MaxSteps+1, "011") + ".\n",
		"1\nb64\n10\n" + steps(api.MaxSteps+1, "011") + ".\n",
		"1\nb9\n1\n" + steps(api.MaxSteps+1, "011") + ".\n",
		"2\nb9\n10\n" + steps(api.MaxSteps+1, "011") + ".\n",
	} {
		checkRead(t, x, 2, 3, 0, api.Trace{}, api.ErrSyntax)
	}
}
