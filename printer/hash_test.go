package printer

import (
	"fmt"
	"hash/fnv"
	"slices"
	"testing"

	"retorter/aig"
	"retorter/api"
)

// fnv1a tells the library's own FNV-1a of 64 bits.
func fnv1a(s string) uint64 {
	h := fnv.New64a()
	h.Write([]byte(s))
	return h.Sum64()
}

// checkHash holds Hash against what it is to tell.
func checkHash(t *testing.T, c api.Circuit, want uint64) {
	t.Helper()
	if got := Hash(c); got != want {
		t.Errorf("P703: Hash(%.300s) = %d; want %d", fmt.Sprint(c), got, want)
	}
}

func TestP703Hash(t *testing.T) {
	for _, x := range []struct {
		c      api.Circuit
		normal string // written by hand
	}{
		{api.Circuit{}, "aag 0 0 0 0 0\n"},
		{api.Circuit{Max: api.MaxVar}, "aag 0 0 0 0 0\n"},
		{api.Circuit{Outputs: []int{1}}, "aag 0 0 0 1 0\n1\n"},
		{api.Circuit{Bads: []int{1}}, "aag 0 0 0 0 0 1\n1\n"},
		{api.Circuit{Constraints: []int{1}}, "aag 0 0 0 0 0 0 1\n1\n"},
		{api.Circuit{Max: 9, Inputs: []int{18, 2}}, "aag 2 2 0 0 0\n2\n4\n"},
		{api.Circuit{Max: 9, Latches: []api.Latch{{Lit: 18, Next: 19}}}, "aag 1 0 1 0 0\n2 3\n"},
		{api.Circuit{Max: 9, Latches: []api.Latch{{Lit: 18, Reset: 18}}}, "aag 1 0 1 0 0\n2 0 2\n"},
		{api.Circuit{Max: 9, Latches: []api.Latch{{Lit: 18, Reset: 1}}}, "aag 1 0 1 0 0\n2 0 1\n"},
		{api.Circuit{Max: 9, Ands: []api.And{{Lit: 18, A: 0, B: 1}}}, "aag 1 0 0 0 1\n2 1 0\n"},
		{small(), "aag 9 2 3 2 4 2 2\n2\n4\n6 17 6\n8 1 1\n10 4\n0\n13\n16\n7\n1\n3\n12 6 5\n14 12 4\n16 15 12\n18 9 0\n"},
	} {
		checkHash(t, x.c, fnv1a(x.normal))
	}
	// Reckoned beforehand, by other means than the language's library.
	checkHash(t, api.Circuit{}, 8797164393122879550)
	checkHash(t, small(), 1547293606077695151)
}

// namesApart tells the Ascii of Normal of c without Symbols, by another way: their lines are cut off at the end.
func namesApart(c api.Circuit) string {
	n, _ := aig.Normal(c)
	text, _ := Ascii(n)
	cut := 0
	for _, s := range n.Names {
		cut += len(fmt.Sprintf("%c%d %s\n", s.Kind, s.Index, s.Name))
	}
	return string(text[:len(text)-cut])
}

func TestP703OfNormal(t *testing.T) {
	all := []api.Circuit{{}, small(), full()}
	l := lot(3)
	for range 1000 {
		all = append(all, l.circuit())
	}
	for _, c := range all {
		want := fnv1a(namesApart(c))
		checkHash(t, c, want)
		n, _ := aig.Normal(c)
		checkHash(t, n, want)
		c.Names = nil
		checkHash(t, c, want)
		c.Max = api.MaxVar
		checkHash(t, c, want)
	}
}

func TestP703Alike(t *testing.T) {
	c := small()
	want := Hash(c)
	slices.Reverse(c.Names)
	checkHash(t, c, want)
	for i, a := range c.Ands {
		c.Ands[i] = api.And{Lit: a.Lit, A: a.B, B: a.A}
	}
	checkHash(t, c, want)
}

func TestP703Unlike(t *testing.T) {
	met := map[uint64]int{Hash(small()): -1, Hash(api.Circuit{}): -2}
	for i, turn := range []func(c *api.Circuit){
		func(c *api.Circuit) { c.Inputs[0], c.Inputs[1] = c.Inputs[1], c.Inputs[0] },
		func(c *api.Circuit) { c.Inputs = append(c.Inputs, 40) },
		func(c *api.Circuit) { c.Latches[0].Reset = 0 },
		func(c *api.Circuit) { c.Latches[0].Reset = 1 },
		func(c *api.Circuit) { c.Latches[2].Reset = 1 },
		func(c *api.Circuit) { c.Latches[2].Reset = 8 },
		func(c *api.Circuit) { c.Latches[0].Next = 20 },
		func(c *api.Circuit) { c.Latches[0], c.Latches[1] = c.Latches[1], c.Latches[0] },
		func(c *api.Circuit) { c.Outputs[0] = 1 },
		func(c *api.Circuit) { c.Outputs[1] = 22 },
		func(c *api.Circuit) { c.Bads[0] = 21 },
		func(c *api.Circuit) { c.Bads, c.Names = nil, nil },
		func(c *api.Circuit) { c.Bads, c.Constraints = c.Constraints, c.Bads },
		func(c *api.Circuit) { c.Constraints[1] = 14 },
		func(c *api.Circuit) { c.Constraints, c.Names = nil, nil },
		func(c *api.Circuit) { c.Ands[0].A = 23 },
		func(c *api.Circuit) { c.Ands[3].B = 4 },
		func(c *api.Circuit) { c.Ands[3], c.Ands[2] = c.Ands[2], c.Ands[3] },
		func(c *api.Circuit) { c.Ands = c.Ands[:3] },
	} {
		c := small()
		turn(&c)
		h := Hash(c)
		if other, there := met[h]; there || h == 0 {
			t.Errorf("P703: turn %d is hashed to %d, as %d is", i, h, other)
		}
		met[h] = i
	}
}

func TestP703Errors(t *testing.T) {
	for _, x := range faults() {
		checkHash(t, x.c, 0)
	}
}

func TestP703NothingIsKept(t *testing.T) {
	// With spare room behind each list, which is to stay as it is, too.
	c := small()
	c.Inputs = append(c.Inputs, -1)[:len(c.Inputs)]
	c.Ands = append(c.Ands, api.And{Lit: -1})[:len(c.Ands)]
	c.Names = append(c.Names, api.Symbol{Name: "spare"})[:len(c.Names)]
	want := Hash(c)
	if !aig.Same(c, small()) || c.Inputs[:3][2] != -1 || c.Ands[:5][4].Lit != -1 || c.Names[:4][3].Name != "spare" {
		t.Errorf("P703: the circuit is turned: %v", c)
	}
	Hash(api.Circuit{Max: -1})
	checkHash(t, c, want)
}
