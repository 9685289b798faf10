package binary

import (
	"bytes"
	"fmt"
	"slices"
	"strings"
	"testing"

	"retorter/aig"
	"retorter/api"
	"retorter/ascii"
)

func checkAny(t *testing.T, s string, want api.Circuit, wantErr api.Errno) {
	t.Helper()
	if got, e := Any([]byte(s)); !aig.Same(got, want) || e != wantErr {
		t.Errorf("P602: Any(%.200q) = %.400s, %d; want %.400s, %d", s, fmt.Sprint(got), e, fmt.Sprint(want), wantErr)
	}
}

func TestP602Any(t *testing.T) {
	checkAny(t, "aag 0 0 0 0 0\n", api.Circuit{}, api.OK)
	checkAny(t, "aig 0 0 0 0 0\n", api.Circuit{}, api.OK)
	checkAny(t, small, smallCircuit(), api.OK)
	checkAny(t, "aag 7 1 0 1 1\n12\n5\n4 12 1\n", api.Circuit{Max: 7, Inputs: []int{12}, Outputs: []int{5}, Ands: []api.And{{Lit: 4, A: 12, B: 1}}}, api.OK)
	// The same lines are other circuits, or none, by their first word.
	checkAny(t, "aag 1 0 1 0 0\n2 1\n", api.Circuit{Max: 1, Latches: []api.Latch{{Lit: 2, Next: 1}}}, api.OK)
	checkAny(t, "aig 1 0 1 0 0\n2 1\n", api.Circuit{Max: 1, Latches: []api.Latch{{Lit: 2, Next: 2, Reset: 1}}}, api.OK)
	checkAny(t, "aag 5000 0 0 0 0\n", api.Circuit{Max: 5000}, api.OK)
	checkAny(t, "aig 5000 0 0 0 0\n", api.Circuit{}, api.ErrSyntax)
	for _, s := range []string{"", "a", "aa", "aag", "aig", "aagx", "aag\n", "aig\n", "aagg 0 0 0 0 0\n", "AAG 0 0 0 0 0\n", " aag 0 0 0 0 0\n", "\naag 0 0 0 0 0\n", "aag 0 0 0 0 0", "aig 0 0 0 0 0", "x", "0 0 0 0 0\n"} {
		checkAny(t, s, api.Circuit{}, api.ErrSyntax)
	}
	checkAny(t, "aag 1 0 0 1 0\n2\n", api.Circuit{}, api.ErrNone)
	checkAny(t, "aag 1 0 0 0 1\n2 2 1\n", api.Circuit{}, api.ErrCycle)
	checkAny(t, "aag 2 2 0 0 0\n2\n2\n", api.Circuit{}, api.ErrTwice)
	checkAny(t, "aig 2 2 0 0 0\ni0 a\ni0 b\n", api.Circuit{}, api.ErrTwice)
	for _, word := range []string{"aag", "aig", "xyz"} {
		checkAny(t, word+strings.Repeat("z", api.MaxBytes-2), api.Circuit{}, api.ErrLong)
		checkAny(t, word+strings.Repeat("z", api.MaxBytes-3), api.Circuit{}, api.ErrSyntax)
	}
	checkAny(t, "aag 5001 0 0 0 0\n", api.Circuit{}, api.ErrLong)
	checkAny(t, "aig 5001 0 0 0 0\n", api.Circuit{}, api.ErrLong)
}

func TestP602AnyIsOneOfBoth(t *testing.T) {
	l := lot(7)
	for range 3000 {
		s := written(l.circuit())
		for range 4 {
			want, e := Read([]byte(s))
			checkAny(t, s, want, e)
			text := "aag" + s[3:]
			want, e = ascii.Read([]byte(text))
			checkAny(t, text, want, e)
			s = "aig" + l.damaged(s[3:])
		}
	}
}

// readers tells both calls, which keep the same rules.
func readers() []func(b []byte) (api.Circuit, api.Errno) {
	return []func(b []byte) (api.Circuit, api.Errno){Read, Any}
}

func TestP602ArgumentsStay(t *testing.T) {
	for i, read := range readers() {
		for _, s := range []string{"", "aig", "aag", small, small[:40], "aig 0 0 0 0 0\n", "aag 1 1 0 1 0\n2\n3\n", strings.Repeat("z", api.MaxBytes+1)} {
			room := []byte(s + "\ni0 spare room\n")
			before := bytes.Clone(room)
			if _, e := read(room[:len(s)]); !bytes.Equal(room, before) {
				t.Errorf("P602: call %d (error %d) has changed %.80q", i, e, room)
			}
		}
	}
}

func TestP602NoLookBehindTheEnd(t *testing.T) {
	for i, read := range readers() {
		room := []byte("aig 1 0 0 0 1\n\x02\x00\x00")
		if c, e := read(room[:16]); e != api.OK || !aig.Same(c, api.Circuit{Max: 1, Ands: []api.And{{Lit: 2}}}) {
			t.Errorf("P602: call %d looks behind the end: %v, %d", i, c, e)
		}
		for n := range 16 {
			if _, e := read(room[:n]); e != api.ErrSyntax {
				t.Errorf("P602: call %d looks behind the end at %d: %d", i, n, e)
			}
		}
	}
}

func TestP602AnswersAreNewMemory(t *testing.T) {
	for i, read := range readers() {
		b := []byte(small)
		c, _ := read(b)
		for at := range b {
			b[at] = 'z'
		}
		if !aig.Same(c, smallCircuit()) {
			t.Errorf("P602: call %d has kept its argument: %v", i, c)
		}
	}
}

func TestP602ListsOfAnAnswerShareNothing(t *testing.T) {
	lists := func(c api.Circuit) [][]int { return [][]int{c.Inputs, c.Outputs, c.Bads, c.Constraints} }
	want := lists(smallCircuit())
	for _, read := range readers() {
		for i := range want {
			c, _ := read([]byte(small))
			got := lists(c)
			spoilt := got[i][:cap(got[i])]
			for at := range spoilt {
				spoilt[at] = 99
			}
			for j := range want {
				if i != j && !slices.Equal(got[j], want[j]) {
					t.Errorf("P602: lists %d and %d of an answer share memory", i, j)
				}
			}
		}
	}
}

func TestP602NothingIsKept(t *testing.T) {
	for range 3 {
		checkRead(t, small, smallCircuit(), api.OK)
		checkErr(t, api.ErrSyntax, small[:40], "")
		checkErr(t, api.ErrTwice, "aig 2 2 0 0 0\ni0 a\ni0 b\n")
		checkRead(t, "aig 0 0 0 0 0\n", api.Circuit{}, api.OK)
		checkAny(t, "aag 1 1 0 1 0\n2\n3\n", api.Circuit{Max: 1, Inputs: []int{2}, Outputs: []int{3}}, api.OK)
		checkAny(t, small, smallCircuit(), api.OK)
	}
}
