package cube

// set is what stands in a list, whatever its order.
type set map[int]struct{}

// setOf tells the set of a list's numbers.
func setOf(l []int) set {
	s := make(set, len(l))
	for _, n := range l {
		s[n] = struct{}{}
	}
	return s
}

// has tells whether n is there.
func (s set) has(n int) bool {
	_, ok := s[n]
	return ok
}

// hasAll tells whether each one of l is there.
func (s set) hasAll(l []int) bool {
	for _, n := range l {
		if !s.has(n) {
			return false
		}
	}
	return true
}
