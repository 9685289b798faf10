package scan

import (
	"bytes"
	"math"
	"math/big"
	"slices"
	"strconv"
	"strings"
	"testing"
	"unsafe"

	"retorter/api"
)

func checkLine(t *testing.T, b []byte, at int, want string, wantNext int, wantErr api.Errno) {
	t.Helper()
	got, next, e := Line(b, at)
	if got != want || next != wantNext || e != wantErr {
		t.Errorf("P101: Line(%q, %d) = %q, %d, %d; want %q, %d, %d", b, at, got, next, e, want, wantNext, wantErr)
	}
}

func TestP101Line(t *testing.T) {
	text := []byte("aag 1\n\n\r\x00\xff \nend")
	for _, x := range []struct {
		at   int
		want string
		next int
		err  api.Errno
	}{
		{0, "aag 1", 6, api.OK},
		{3, " 1", 6, api.OK},
		{5, "", 6, api.OK},
		{6, "", 7, api.OK},
		{7, "\r\x00\xff ", 12, api.OK},
		{12, "", 0, api.ErrShort},
		{14, "", 0, api.ErrShort},
		{15, "", 0, api.ErrShort},
		{16, "", 0, api.ErrArg},
		{-1, "", 0, api.ErrArg},
		{math.MinInt, "", 0, api.ErrArg},
		{math.MaxInt, "", 0, api.ErrArg},
	} {
		checkLine(t, text, x.at, x.want, x.next, x.err)
	}
}

func TestP101LineOfLittle(t *testing.T) {
	for _, b := range [][]byte{nil, {}} {
		checkLine(t, b, 0, "", 0, api.ErrShort)
		checkLine(t, b, 1, "", 0, api.ErrArg)
		checkLine(t, b, -1, "", 0, api.ErrArg)
	}
	checkLine(t, []byte("\n"), 0, "", 1, api.OK)
	checkLine(t, []byte("\n"), 1, "", 0, api.ErrShort)
	checkLine(t, []byte("x"), 0, "", 0, api.ErrShort)
}

func TestP101LineStopsAtTheLength(t *testing.T) {
	room := []byte("ab\ncd\n")
	checkLine(t, room[:2], 0, "", 0, api.ErrShort)
	checkLine(t, room[:2], 3, "", 0, api.ErrArg)
	checkLine(t, room[:5], 3, "", 0, api.ErrShort)
}

func TestP101LinesGoThroughAText(t *testing.T) {
	want := []string{"one", "", " two ", "three"}
	text := []byte(strings.Join(want, "\n") + "\n")
	var got []string
	for at := 0; at < len(text); {
		line, next, e := Line(text, at)
		if e != api.OK {
			t.Fatalf("P101: Line(%q, %d): error %d", text, at, e)
		}
		got, at = append(got, line), next
	}
	if !slices.Equal(got, want) {
		t.Errorf("P101: lines %q; want %q", got, want)
	}
}

func checkNumber(t *testing.T, s string, most, want int, wantErr api.Errno) {
	t.Helper()
	if got, e := Number(s, most); got != want || e != wantErr {
		t.Errorf("P101: Number(%q, %d) = %d, %d; want %d, %d", s, most, got, e, want, wantErr)
	}
}

func TestP101NumberGood(t *testing.T) {
	for _, n := range []int{0, 1, 7, 9, 10, 99, 100, 5000, math.MaxInt32, math.MaxInt - 1, math.MaxInt} {
		s := strconv.Itoa(n)
		checkNumber(t, s, n, n, api.OK)
		checkNumber(t, s, math.MaxInt, n, api.OK)
		checkNumber(t, s, n-1, 0, api.ErrLong)
		checkNumber(t, s, -1, 0, api.ErrLong)
		checkNumber(t, s, math.MinInt, 0, api.ErrLong)
	}
}

func TestP101NumberSyntax(t *testing.T) {
	for _, s := range []string{
		"", "07", "00", "01", "000", "-1", "-0", "+1", "+0", " 1", "1 ", "1 2", "1a", "a", "0x1", "1_0", "1e3", "1.0",
		"\n", "1\n", "\x00", "1\x00", "/", ":", "1/", "1:", "\xff", "\u0661", "\uff11", "\u00b2",
	} {
		for _, most := range []int{math.MinInt, -1, 0, 9, math.MaxInt} {
			checkNumber(t, s, most, 0, api.ErrSyntax)
		}
	}
}

func TestP101NumberHoweverManyDigits(t *testing.T) {
	beyond := new(big.Int).SetInt64(math.MaxInt64)
	for range 12 {
		beyond.Add(beyond, big.NewInt(1))
		checkNumber(t, beyond.String(), math.MaxInt, 0, api.ErrLong)
	}
	// A reader that wraps round would take these for 0, 1 and 5.
	for _, s := range []string{"18446744073709551616", "18446744073709551617", "18446744073709551621", "340282366920938463463374607431768211456"} {
		checkNumber(t, s, math.MaxInt, 0, api.ErrLong)
		checkNumber(t, s, 9, 0, api.ErrLong)
	}
	long := strings.Repeat("9", 100000)
	checkNumber(t, long, math.MaxInt, 0, api.ErrLong)
	checkNumber(t, "1"+strings.Repeat("0", 100000), 5, 0, api.ErrLong)
	checkNumber(t, long+"x", 5, 0, api.ErrSyntax)
	checkNumber(t, "0"+long, 5, 0, api.ErrSyntax)
	checkNumber(t, strings.Repeat("0", 30), 5, 0, api.ErrSyntax)
}

func TestP101NumberOfEveryByte(t *testing.T) {
	for c := range 256 {
		s := string([]byte{byte(c)})
		if c >= '0' && c <= '9' {
			checkNumber(t, s, 9, c-'0', api.OK)
			checkNumber(t, "1"+s, 19, 10+c-'0', api.OK)
			continue
		}
		checkNumber(t, s, 9, 0, api.ErrSyntax)
		checkNumber(t, "1"+s, 99, 0, api.ErrSyntax)
		checkNumber(t, s+"1", 99, 0, api.ErrSyntax)
	}
}

func TestP101NumberAgainstCounting(t *testing.T) {
	for n := range 1200 {
		for most := -2; most < 1200; most += 7 {
			if n <= most {
				checkNumber(t, strconv.Itoa(n), most, n, api.OK)
			} else {
				checkNumber(t, strconv.Itoa(n), most, 0, api.ErrLong)
			}
		}
	}
}

func TestP101Words(t *testing.T) {
	for _, x := range []struct {
		s    string
		want []string
	}{
		{"a", []string{"a"}},
		{"a b", []string{"a", "b"}},
		{"aag 0 0 0", []string{"aag", "0", "0", "0"}},
		{"same same same", []string{"same", "same", "same"}},
		{"a\tb c\n", []string{"a\tb", "c\n"}},
		{"\u00a0 \u2003", []string{"\u00a0", "\u2003"}},
		{"\xff\x00 \x80", []string{"\xff\x00", "\x80"}},
		{"\t", []string{"\t"}},
		{"", nil}, {" ", nil}, {"  ", nil}, {"   ", nil},
		{" a", nil}, {"a ", nil}, {" a ", nil}, {"a  b", nil}, {"a b  c", nil}, {"a b ", nil}, {" a b", nil}, {"a   b", nil},
	} {
		got, ok := Words(x.s)
		if !slices.Equal(got, x.want) || ok != (x.want != nil) {
			t.Errorf("P101: Words(%q) = %q, %v; want %q", x.s, got, ok, x.want)
		}
	}
}

// allTexts tells every text of at most length bytes of the alphabet.
func allTexts(alphabet string, length int) []string {
	all, last := []string{""}, []string{""}
	for range length {
		var longer []string
		for _, s := range last {
			for _, c := range []byte(alphabet) {
				longer = append(longer, s+string(c))
			}
		}
		all, last = append(all, longer...), longer
	}
	return all
}

func TestP101WordsOfAllShortTexts(t *testing.T) {
	for _, s := range allTexts("ab ", 7) {
		wrong := s == "" || strings.HasPrefix(s, " ") || strings.HasSuffix(s, " ") || strings.Contains(s, "  ")
		got, ok := Words(s)
		if ok == wrong {
			t.Errorf("P101: Words(%q): %v", s, ok)
		}
		if wrong && len(got) != 0 {
			t.Errorf("P101: Words(%q) tells %q beside false", s, got)
		}
		if !wrong && (strings.Join(got, " ") != s || len(got) != strings.Count(s, " ")+1) {
			t.Errorf("P101: Words(%q) = %q", s, got)
		}
	}
}

func checkNumbers(t *testing.T, s string, least, most, top int, want []int, wantErr api.Errno) {
	t.Helper()
	got, e := Numbers(s, least, most, top)
	if !slices.Equal(got, want) || e != wantErr {
		t.Errorf("P101: Numbers(%q, %d, %d, %d) = %v, %d; want %v, %d", s, least, most, top, got, e, want, wantErr)
	}
}

func TestP101Numbers(t *testing.T) {
	checkNumbers(t, "0", 1, 1, 0, []int{0}, api.OK)
	checkNumbers(t, "3 1 2", 3, 3, 3, []int{3, 1, 2}, api.OK)
	checkNumbers(t, "5 5 5 5", 1, 9, 5, []int{5, 5, 5, 5}, api.OK)
	checkNumbers(t, "1 2", math.MinInt, math.MaxInt, math.MaxInt, []int{1, 2}, api.OK)
	checkNumbers(t, "1 9223372036854775807", 2, 2, math.MaxInt, []int{1, math.MaxInt}, api.OK)
}

func TestP101NumbersHowMany(t *testing.T) {
	for count := 1; count <= 6; count++ {
		s := strings.TrimSuffix(strings.Repeat("4 ", count), " ")
		for least := -1; least <= 7; least++ {
			for most := -1; most <= 7; most++ {
				if least <= count && count <= most {
					checkNumbers(t, s, least, most, 4, slices.Repeat([]int{4}, count), api.OK)
				} else {
					checkNumbers(t, s, least, most, 4, nil, api.ErrSyntax)
				}
			}
		}
	}
	checkNumbers(t, "1", math.MaxInt, math.MaxInt, 9, nil, api.ErrSyntax)
	checkNumbers(t, "1", math.MinInt, math.MinInt, 9, nil, api.ErrSyntax)
	checkNumbers(t, "1 2", 2, 1, 9, nil, api.ErrSyntax)
}

func TestP101NumbersNoWords(t *testing.T) {
	for _, s := range []string{"", " ", "1 ", " 1", "1  2", "1 2 "} {
		checkNumbers(t, s, 0, 9, 9, nil, api.ErrSyntax)
		checkNumbers(t, s, -1, math.MaxInt, 9, nil, api.ErrSyntax)
	}
	// That there are no words is told ahead of what is wrong with one of them.
	checkNumbers(t, "99 1 ", 1, 9, 9, nil, api.ErrSyntax)
}

func TestP101NumbersFirstError(t *testing.T) {
	checkNumbers(t, "10", 1, 1, 9, nil, api.ErrLong)
	checkNumbers(t, "1 x 10", 3, 3, 9, nil, api.ErrSyntax)
	checkNumbers(t, "1 10 x", 3, 3, 9, nil, api.ErrLong)
	checkNumbers(t, "07 10", 2, 2, 9, nil, api.ErrSyntax)
	checkNumbers(t, "10 07", 2, 2, 9, nil, api.ErrLong)
	checkNumbers(t, "1 2 3 4 10", 5, 5, 9, nil, api.ErrLong)
	checkNumbers(t, "1 2\t3", 2, 2, 9, nil, api.ErrSyntax)
	checkNumbers(t, "0", 1, 1, -1, nil, api.ErrLong)
	checkNumbers(t, "0 x", 2, 2, math.MinInt, nil, api.ErrLong)
	checkNumbers(t, "1 99999999999999999999", 2, 2, math.MaxInt, nil, api.ErrLong)
	// How many there are is asked ahead of what they are.
	checkNumbers(t, "10 10", 3, 3, 9, nil, api.ErrSyntax)
	checkNumbers(t, "10 10", 1, 1, 9, nil, api.ErrSyntax)
}

func TestP102ArgumentsStay(t *testing.T) {
	room := []byte("ab\ncd\nspare")
	before := bytes.Clone(room)
	for at := -1; at <= 7; at++ {
		Line(room[:6], at)
	}
	if !bytes.Equal(room, before) {
		t.Errorf("P102: Line has turned %q into %q", before, room)
	}
}

func TestP102LineIsNewMemory(t *testing.T) {
	b := []byte("ab\ncd\n")
	got, _, _ := Line(b, 0)
	copy(b, "xy\nzz\n")
	if got != "ab" {
		t.Errorf("P102: the line became %q with its bytes", got)
	}
	checkLine(t, b, 0, "xy", 3, api.OK)
}

func TestP102WordsAreNewMemory(t *testing.T) {
	s := strings.Clone("alone")
	if got, _ := Words(s); unsafe.StringData(got[0]) == unsafe.StringData(s) {
		t.Errorf("P102: a word is a piece of the text")
	}
	first, _ := Words("a b c")
	first[0] = "turned"
	_ = append(first[:1], "turned")
	second, _ := Words("a b c")
	if !slices.Equal(second, []string{"a", "b", "c"}) {
		t.Errorf("P102: Words tells %q after an answer was changed", second)
	}
}

func TestP102NumbersAreNewMemory(t *testing.T) {
	first, _ := Numbers("1 2 3", 3, 3, 9)
	first[0] = 99
	second, _ := Numbers("1 2 3", 3, 3, 9)
	if !slices.Equal(second, []int{1, 2, 3}) || first[0] != 99 {
		t.Errorf("P102: %v and %v share memory", first, second)
	}
}

func TestP102NothingIsKept(t *testing.T) {
	for range 3 {
		checkLine(t, []byte("ab\n"), 0, "ab", 3, api.OK)
		checkLine(t, []byte("ab"), 0, "", 0, api.ErrShort)
		checkNumber(t, "12", 12, 12, api.OK)
		checkNumber(t, "12", 11, 0, api.ErrLong)
		checkNumber(t, "x", 11, 0, api.ErrSyntax)
		checkNumbers(t, "1 2", 2, 2, 9, []int{1, 2}, api.OK)
		checkNumbers(t, "1 2", 3, 3, 9, nil, api.ErrSyntax)
		checkNumbers(t, "1 2", 2, 2, 1, nil, api.ErrLong)
		if l, ok := Words("a b"); !ok || !slices.Equal(l, []string{"a", "b"}) {
			t.Errorf("P102: Words tells %q, %v", l, ok)
		}
		if l, ok := Words("a  b"); ok || len(l) != 0 {
			t.Errorf("P102: Words tells %q, %v", l, ok)
		}
	}
}
