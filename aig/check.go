package aig

import "retorter/api"

// tooLong tells whether c has more of something than the limits allow.
func tooLong(c api.Circuit) bool {
	ports := []int{len(c.Inputs), len(c.Latches), len(c.Outputs), len(c.Bads), len(c.Constraints)}
	all := 0
	for _, n := range ports {
		if n > api.MaxPorts {
			return true
		}
		all += n
	}
	return c.Max > api.MaxVar || len(c.Ands) > api.MaxAnds || len(c.Names) > all
}

// rightLiterals tells whether each literal of c is one that may stand in its place, whatever the others are.
func rightLiterals(c api.Circuit) bool {
	if c.Max < 0 {
		return false
	}
	top := 2*c.Max + 1
	for _, l := range made(c) {
		if l <= 0 || l > top || l%2 != 0 {
			return false
		}
	}
	for _, l := range used(c) {
		if l < 0 || l > top {
			return false
		}
	}
	for _, l := range c.Latches {
		if l.Reset != 0 && l.Reset != 1 && l.Reset != l.Lit {
			return false
		}
	}
	return true
}

// rightNames tells whether each Symbol of c names something that is there, by a name that may be.
func rightNames(c api.Circuit) bool {
	for _, s := range c.Names {
		if s.Index < 0 || s.Index >= howMany(c, s.Kind) || !isName(s.Name) {
			return false
		}
	}
	return true
}

// howMany tells how many things of a Symbol's Kind c has: none of a Kind that there is not.
func howMany(c api.Circuit, kind byte) int {
	switch kind {
	case 'i':
		return len(c.Inputs)
	case 'l':
		return len(c.Latches)
	case 'o':
		return len(c.Outputs)
	case 'b':
		return len(c.Bads)
	case 'c':
		return len(c.Constraints)
	}
	return 0
}

// isName tells whether a Symbol's Name may be s.
func isName(s string) bool {
	if s == "" || len(s) > api.MaxName {
		return false
	}
	for i := range len(s) {
		if s[i] < ' ' {
			return false
		}
	}
	return true
}

// variables tells of each variable, 0 to Max, whether it is one of c's, or 0; false if one is there twice.
func variables(c api.Circuit) ([]bool, bool) {
	known := make([]bool, c.Max+1)
	known[0] = true
	for _, l := range made(c) {
		if known[l/2] {
			return nil, false
		}
		known[l/2] = true
	}
	return known, true
}

// port is what a Symbol names.
type port struct {
	kind  byte
	index int
}

// namedTwice tells whether two Symbols of c name the same thing.
func namedTwice(c api.Circuit) bool {
	named := make(map[port]struct{}, len(c.Names))
	for _, s := range c.Names {
		named[port{s.Kind, s.Index}] = struct{}{}
	}
	return len(named) < len(c.Names)
}

// allKnown tells whether each literal that something of c hangs on is of a variable that is known.
func allKnown(c api.Circuit, known []bool) bool {
	for _, l := range used(c) {
		if !known[l/2] {
			return false
		}
	}
	return true
}

// made tells the literals that Inputs, Latches and Ands are.
func made(c api.Circuit) []int {
	list := make([]int, 0, Vars(c))
	list = append(list, c.Inputs...)
	for _, l := range c.Latches {
		list = append(list, l.Lit)
	}
	for _, a := range c.Ands {
		list = append(list, a.Lit)
	}
	return list
}

// used tells the literals that things of c hang on.
func used(c api.Circuit) []int {
	var list []int
	for _, l := range c.Latches {
		list = append(list, l.Next)
	}
	list = append(list, c.Outputs...)
	list = append(list, c.Bads...)
	list = append(list, c.Constraints...)
	for _, a := range c.Ands {
		list = append(list, a.A, a.B)
	}
	return list
}
