package cube

// placed is a list as Of tells it, and its place among those that were handed in.
type placed struct {
	place int
	list  []int
}

// Least tells, as Of does, the lists within which no other one is; of those alike the first one.
func Least(l [][]int) [][]int {
	lists := rightOnes(l)
	k := newKeeper(lists)
	// Shorter ones come first, and earlier ones of those alike: what could stand in a list's place is there ahead of it.
	var kept []placed
	for _, p := range inOrder(lists, shorter) {
		if !k.hasPartOf(p.list) {
			k.keep(p.list)
			kept = append(kept, p)
		}
	}
	least := make([][]int, 0, len(kept))
	for _, p := range inOrder(kept, earlier) {
		least = append(least, p.list)
	}
	return least
}

// rightOnes tells those of the lists of which Of is true, each as Of tells it.
func rightOnes(l [][]int) []placed {
	var lists []placed
	for i, signs := range l {
		if list, ok := Of(signs); ok {
			lists = append(lists, placed{i, list})
		}
	}
	return lists
}

// shorter is the order by length, and by place where the lengths are alike.
func shorter(a, b placed) bool {
	if len(a.list) != len(b.list) {
		return len(a.list) < len(b.list)
	}
	return earlier(a, b)
}

// earlier is the order by place.
func earlier(a, b placed) bool {
	return a.place < b.place
}

// keeper holds lists, each under the one of its signs that is rarest in all lists, so that few of them are looked at for one that is within another.
type keeper struct {
	count map[int]int
	under map[int][][]int
}

// newKeeper tells one that is empty, for lists of those that are handed in.
func newKeeper(lists []placed) *keeper {
	k := &keeper{map[int]int{}, map[int][][]int{}}
	for _, p := range lists {
		for _, n := range p.list {
			k.count[n]++
		}
	}
	return k
}

// keep takes one more list.
func (k *keeper) keep(list []int) {
	n := k.rarest(list)
	k.under[n] = append(k.under[n], list)
}

// rarest tells that one of a list's signs that is in the fewest lists: 0, which is no sign, if the list is empty.
func (k *keeper) rarest(list []int) int {
	best := 0
	for _, n := range list {
		if best == 0 || k.count[n] < k.count[best] {
			best = n
		}
	}
	return best
}

// hasPartOf tells whether a list that is kept is within the one that is handed in.
func (k *keeper) hasPartOf(list []int) bool {
	// What lies under 0 is the empty list, which is within each.
	if len(k.under[0]) > 0 {
		return true
	}
	whole := setOf(list)
	for _, n := range list {
		for _, part := range k.under[n] {
			if whole.hasAll(part) {
				return true
			}
		}
	}
	return false
}
