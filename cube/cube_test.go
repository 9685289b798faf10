package cube

import (
	"math"
	"slices"
	"testing"
)

func checkRight(t *testing.T, l []int, want bool) {
	t.Helper()
	if got := Right(l); got != want {
		t.Errorf("P301: Right(%v) = %v", l, got)
	}
}

func checkOf(t *testing.T, l, want []int, wantOk bool) {
	t.Helper()
	if got, ok := Of(l); !slices.Equal(got, want) || ok != wantOk {
		t.Errorf("P301: Of(%v) = %v, %v; want %v, %v", l, got, ok, want, wantOk)
	}
}

func checkWithin(t *testing.T, a, b []int, want bool) {
	t.Helper()
	if got := Within(a, b); got != want {
		t.Errorf("P301: Within(%v, %v) = %v", a, b, got)
	}
}

func checkMeet(t *testing.T, a, b, want []int) {
	t.Helper()
	if got := Meet(a, b); !slices.Equal(got, want) {
		t.Errorf("P301: Meet(%v, %v) = %v; want %v", a, b, got, want)
	}
}

func checkResolve(t *testing.T, a, b []int, v int, want []int, wantOk bool) {
	t.Helper()
	if got, ok := Resolve(a, b, v); !slices.Equal(got, want) || ok != wantOk {
		t.Errorf("P302: Resolve(%v, %v, %d) = %v, %v; want %v, %v", a, b, v, got, ok, want, wantOk)
	}
}

func checkLeast(t *testing.T, l, want [][]int) {
	t.Helper()
	if got := Least(l); !slices.EqualFunc(got, want, slices.Equal) {
		t.Errorf("P302: Least(%v) = %v; want %v", l, got, want)
	}
}

// noSigns are numbers that stand in no list that is Right.
func noSigns() []int {
	return []int{0, 1<<31 + 1, -1<<31 - 1, 1 << 32, -1 << 32, math.MaxInt, math.MinInt, math.MinInt + 1}
}

// allLists tells each list of at most so many of the numbers, in each order.
func allLists(numbers []int, longest int) [][]int {
	lists := [][]int{nil}
	for from := 0; longest > 0; longest-- {
		to := len(lists)
		for _, l := range lists[from:to] {
			for _, n := range numbers {
				lists = append(lists, append(slices.Clone(l), n))
			}
		}
		from = to
	}
	return lists
}

func TestP301Right(t *testing.T) {
	for _, l := range [][]int{nil, {}, {1}, {-1}, {5}, {1, 2}, {-1, 2, -7}, {1, -2, 1 << 31}, {-1 << 31}, {1<<31 - 1, -1 << 31}} {
		checkRight(t, l, true)
	}
	for _, l := range [][]int{{2, 1}, {-2, 1}, {2, -1}, {1, 1}, {1, -1}, {-1, 1}, {-1, -1}, {1, 2, -2}, {1, 3, 2}, {1 << 31, -1 << 31}} {
		checkRight(t, l, false)
	}
	for _, n := range noSigns() {
		checkRight(t, []int{n}, false)
		checkRight(t, []int{1, n}, false)
		checkRight(t, []int{n, 3}, false)
		checkRight(t, []int{1, n, 3}, false)
	}
}

func TestP301Of(t *testing.T) {
	checkOf(t, nil, nil, true)
	checkOf(t, []int{}, nil, true)
	checkOf(t, []int{-4}, []int{-4}, true)
	checkOf(t, []int{3, -1, 2}, []int{-1, 2, 3}, true)
	checkOf(t, []int{2, 2, -5, 2}, []int{2, -5}, true)
	checkOf(t, []int{-7, -7, -7}, []int{-7}, true)
	checkOf(t, []int{10, 9, 300, -1}, []int{-1, 9, 10, 300}, true)
	checkOf(t, []int{1 << 31, -1, -1<<31 + 1}, []int{-1, -1<<31 + 1, 1 << 31}, true)
	checkOf(t, []int{-1 << 31, 2, -1 << 31}, []int{2, -1 << 31}, true)
}

func TestP301OfNone(t *testing.T) {
	for _, l := range [][]int{{1, -1}, {-1, 1}, {5, 1, -5}, {2, 3, 2, -3}, {1, 1, -1}, {1 << 31, 7, -1 << 31}} {
		checkOf(t, l, nil, false)
	}
	for _, n := range noSigns() {
		checkOf(t, []int{n}, nil, false)
		checkOf(t, []int{n, 3, 1}, nil, false)
		checkOf(t, []int{3, n, 1}, nil, false)
		checkOf(t, []int{3, 1, n}, nil, false)
	}
}

// byHandOf is P301's Of told again, one size at a time.
func byHandOf(l []int) ([]int, bool) {
	var list []int
	for n := range 6 {
		plus, minus := slices.Contains(l, n), slices.Contains(l, -n)
		if plus && minus {
			return nil, false
		}
		if plus {
			list = append(list, n)
		}
		if minus {
			list = append(list, -n)
		}
	}
	return list, true
}

func TestP301OfAllShortLists(t *testing.T) {
	for _, l := range allLists([]int{0, 1, -1, 2, -2, 3, -5}, 5) {
		want, ok := byHandOf(l)
		checkOf(t, l, want, ok)
		checkRight(t, l, ok && slices.Equal(l, want))
	}
}

func TestP301OfLong(t *testing.T) {
	const size = 200000
	var l, want []int
	for i := range size {
		// 77773 has no part in common with the size, so each number comes once.
		n := i*77773%size + 1
		l = append(l, n-2*n*(n%2), n-2*n*(n%2))
		want = append(want, i+1-2*(i+1)*((i+1)%2))
	}
	if got, ok := Of(l); !ok || !slices.Equal(got, want) {
		t.Errorf("P301: Of of a long list: %d signs, %v", len(got), ok)
	}
	if got, ok := Of(append(l, -l[7])); ok || len(got) != 0 {
		t.Errorf("P301: Of of a long list with an opposite: %d signs, %v", len(got), ok)
	}
}

func TestP301Not(t *testing.T) {
	for _, x := range []struct{ l, want []int }{
		{nil, nil},
		{[]int{}, nil},
		{[]int{1}, []int{-1}},
		{[]int{3, -1, 0, 3, 3}, []int{-3, 1, 0, -3, -3}},
		{[]int{1 << 31, -1 << 31, 1 << 40}, []int{-1 << 31, 1 << 31, -1 << 40}},
		{[]int{math.MaxInt, math.MinInt + 1}, []int{-math.MaxInt, math.MaxInt}},
		// No int is its opposite: the language's own turn stands.
		{[]int{2, math.MinInt}, []int{-2, math.MinInt}},
	} {
		if got := Not(x.l); !slices.Equal(got, x.want) {
			t.Errorf("P301: Not(%v) = %v; want %v", x.l, got, x.want)
		}
	}
}

func TestP301Within(t *testing.T) {
	checkWithin(t, nil, nil, true)
	checkWithin(t, nil, []int{}, true)
	checkWithin(t, nil, []int{0, 1}, true)
	checkWithin(t, []int{1}, nil, false)
	checkWithin(t, []int{1}, []int{-1}, false)
	checkWithin(t, []int{-1}, []int{1}, false)
	checkWithin(t, []int{1, 1, -2, 1}, []int{3, -2, 1}, true)
	checkWithin(t, []int{3, 2, 1}, []int{1, 2}, false)
	checkWithin(t, []int{1, 2, 3}, []int{1, 3}, false)
	checkWithin(t, []int{1, 2}, []int{2, 2, 2}, false)
}

func TestP301WithinOfAnyLists(t *testing.T) {
	checkWithin(t, []int{0}, []int{1}, false)
	checkWithin(t, []int{0, 2}, []int{2, 0}, true)
	checkWithin(t, []int{1, -1}, []int{-1, 1}, true)
	checkWithin(t, []int{1, -1}, []int{1}, false)
	for _, n := range noSigns() {
		checkWithin(t, []int{n}, noSigns(), true)
		checkWithin(t, []int{n}, []int{5, n, n}, true)
		checkWithin(t, []int{5, n}, []int{5}, false)
	}
}

func TestP301Meet(t *testing.T) {
	checkMeet(t, nil, nil, nil)
	checkMeet(t, []int{1, 2}, nil, nil)
	checkMeet(t, nil, []int{1, 2}, nil)
	checkMeet(t, []int{1, 2}, []int{-1, -2}, nil)
	checkMeet(t, []int{1, 2, 3}, []int{2, 3, 4}, []int{2, 3})
	checkMeet(t, []int{5, 3, 1}, []int{1, 5}, []int{1, 5})
	checkMeet(t, []int{1, 5}, []int{5, 3, 1}, []int{1, 5})
	checkMeet(t, []int{-4, 2, -4, 2}, []int{9, 2, -4}, []int{2, -4})
}

func TestP301MeetOfAnyLists(t *testing.T) {
	checkMeet(t, []int{1, -1, 2}, []int{-1, 1, 2}, nil)
	checkMeet(t, []int{1, -1, 2}, []int{1, 2}, []int{1, 2})
	checkMeet(t, []int{1, 2}, []int{1, -1, 2}, []int{1, 2})
	for _, n := range noSigns() {
		checkMeet(t, []int{n, 2}, []int{2, n}, nil)
		checkMeet(t, []int{n, 2}, []int{2, 3}, []int{2})
		checkMeet(t, []int{3, 2}, []int{n, 2}, []int{2})
	}
}

func TestP301AllShortPairs(t *testing.T) {
	lists := allLists([]int{0, 1, -1, 2, -3}, 3)
	for _, a := range lists {
		for _, b := range lists {
			var both []int
			within := true
			for _, n := range a {
				if slices.Contains(b, n) {
					both = append(both, n)
				} else {
					within = false
				}
			}
			want, _ := byHandOf(both)
			checkWithin(t, a, b, within)
			checkMeet(t, a, b, want)
		}
	}
}

func TestP302Resolve(t *testing.T) {
	checkResolve(t, []int{1, 2}, []int{-1, 3}, 1, []int{2, 3}, true)
	checkResolve(t, []int{-1, 2}, []int{1, 3}, 1, []int{2, 3}, true)
	checkResolve(t, []int{1}, []int{-1}, 1, nil, true)
	checkResolve(t, []int{1, 4, 9}, []int{-4, 5, 9}, 4, []int{1, 5, 9}, true)
	checkResolve(t, []int{-2, 3, -7}, []int{1, -3, 5}, 3, []int{1, -2, 5, -7}, true)
	checkResolve(t, []int{2, 1 << 31}, []int{3, -1 << 31}, 1<<31, []int{2, 3}, true)
	checkResolve(t, []int{-1, 1 << 31}, []int{1, 1 << 31}, 1, []int{1 << 31}, true)
}

func TestP302ResolveNone(t *testing.T) {
	// Neither list has v where the other one has its opposite.
	checkResolve(t, nil, nil, 1, nil, false)
	checkResolve(t, []int{1}, nil, 1, nil, false)
	checkResolve(t, nil, []int{-1}, 1, nil, false)
	checkResolve(t, []int{1, 2}, []int{1, 3}, 1, nil, false)
	checkResolve(t, []int{-1, 2}, []int{-1, 3}, 1, nil, false)
	checkResolve(t, []int{1, 2}, []int{-1, 3}, 2, nil, false)
	checkResolve(t, []int{1, 2}, []int{-1, 3}, 3, nil, false)
	checkResolve(t, []int{1, 2}, []int{-1, 3}, 4, nil, false)
	// What is left has a sign and its opposite.
	checkResolve(t, []int{1, 2}, []int{-1, -2}, 1, nil, false)
	checkResolve(t, []int{1, 2}, []int{-1, -2}, 2, nil, false)
	for _, v := range []int{0, -1, -2, math.MinInt, math.MaxInt, 1<<31 + 1} {
		checkResolve(t, []int{1, 2}, []int{-1, 3}, v, nil, false)
		checkResolve(t, []int{-1, 3}, []int{1, 2}, v, nil, false)
	}
}

func TestP302ResolveNotRight(t *testing.T) {
	good := []int{1, 2}
	for _, bad := range [][]int{{3, -1}, {-1, -1}, {-1, 3, 3}, {-1, 1}, {1, -1}, {0, -1}, {-1, 4, -4}, {-1, math.MinInt}, {-1, 1<<31 + 1}} {
		checkResolve(t, good, bad, 1, nil, false)
		checkResolve(t, bad, good, 1, nil, false)
		checkResolve(t, Not(good), Not(bad), 1, nil, false)
	}
	for _, v := range noSigns() {
		checkResolve(t, []int{v}, []int{-v}, v, nil, false)
		checkResolve(t, []int{-v}, []int{v}, v, nil, false)
	}
}

// byHandResolve is P302's Resolve told again, in its own order.
func byHandResolve(a, b []int, v int) ([]int, bool) {
	one := slices.Contains(a, v) && slices.Contains(b, -v)
	other := slices.Contains(a, -v) && slices.Contains(b, v)
	if v <= 0 || !Right(a) || !Right(b) || !one && !other {
		return nil, false
	}
	return byHandOf(slices.DeleteFunc(slices.Concat(a, b), func(n int) bool { return n == v || n == -v }))
}

func TestP302ResolveAllShortPairs(t *testing.T) {
	lists := allLists([]int{1, -1, 2, -2, 3, -3}, 3)
	// A hundred of those that are not Right is enough of them.
	wrong := 0
	lists = slices.DeleteFunc(lists, func(l []int) bool {
		if !Right(l) {
			wrong++
		}
		return !Right(l) && wrong > 100
	})
	for _, a := range lists {
		for _, b := range lists {
			for v := -1; v < 4; v++ {
				want, ok := byHandResolve(a, b, v)
				checkResolve(t, a, b, v, want, ok)
			}
		}
	}
}

func TestP302Least(t *testing.T) {
	checkLeast(t, nil, nil)
	checkLeast(t, [][]int{}, nil)
	checkLeast(t, [][]int{{3, -1, 3}}, [][]int{{-1, 3}})
	checkLeast(t, [][]int{{2, 1}, {1, 2}, {1}}, [][]int{{1}})
	checkLeast(t, [][]int{{1}, {1, 2}, {2, 1}}, [][]int{{1}})
	checkLeast(t, [][]int{{1, 2}, {-1}, {1, 3}}, [][]int{{1, 2}, {-1}, {1, 3}})
	checkLeast(t, [][]int{{-1, 2}, {1}, {1, 2}}, [][]int{{-1, 2}, {1}})
	checkLeast(t, [][]int{{1, 2, 3}, {2, 3}, {3, 4}, {3, 2}}, [][]int{{2, 3}, {3, 4}})
	checkLeast(t, [][]int{{1, 2, 3, 4}, {1, 2, 3}, {1, 2}, {4}, {3}}, [][]int{{1, 2}, {4}, {3}})
}

func TestP302LeastOrder(t *testing.T) {
	// The place is that of the first one alike, whatever the others' lengths are.
	checkLeast(t, [][]int{{9, 8, 7}, {5}, {6, 4}, {8, 7, 9}, {3}}, [][]int{{7, 8, 9}, {5}, {4, 6}, {3}})
	checkLeast(t, [][]int{{3}, {2}, {1}, {2}, {3}, {2, 2}}, [][]int{{3}, {2}, {1}})
	checkLeast(t, [][]int{{2, 1}, {3}, {1, 2, 2}}, [][]int{{1, 2}, {3}})
}

func TestP302LeastEmpty(t *testing.T) {
	checkLeast(t, [][]int{nil}, [][]int{{}})
	checkLeast(t, [][]int{{}, nil, {}}, [][]int{{}})
	checkLeast(t, [][]int{{1}, {}, {2, -3}, {0}}, [][]int{{}})
}

func TestP302LeastLeavesOut(t *testing.T) {
	checkLeast(t, [][]int{{1, -1}}, nil)
	checkLeast(t, [][]int{{1, -1}, {0}, {1, 2}}, [][]int{{1, 2}})
	checkLeast(t, [][]int{{1, 2, 0}, {1, 2}, {1, 2, -2}}, [][]int{{1, 2}})
	for _, n := range noSigns() {
		checkLeast(t, [][]int{{n}, {5, n}, {5, 3}}, [][]int{{3, 5}})
		checkLeast(t, [][]int{{n}}, nil)
	}
}

// byHandLeast is P302's Least told again, each list held against each other one.
func byHandLeast(l [][]int) [][]int {
	var right, least [][]int
	for _, signs := range l {
		list, ok := byHandOf(signs)
		if ok && !slices.ContainsFunc(right, func(r []int) bool { return slices.Equal(r, list) }) {
			right = append(right, list)
		}
	}
	for i, list := range right {
		alone := true
		for j, other := range right {
			alone = alone && (i == j || slices.ContainsFunc(other, func(n int) bool { return !slices.Contains(list, n) }))
		}
		if alone {
			least = append(least, list)
		}
	}
	return least
}

func TestP302LeastOfManyLists(t *testing.T) {
	lists := allLists([]int{1, -1, 2, -3, 4, 5, 0}, 3)
	// A plain rule picks lists far from each other, the same ones each time.
	at := 1
	for round := range 3000 {
		var l [][]int
		for range 1 + round%12 {
			at = (at*48271 + 11) % 2147483647
			l = append(l, lists[1+at%(len(lists)-1)])
		}
		checkLeast(t, l, byHandLeast(l))
	}
}

func TestP302LeastLong(t *testing.T) {
	const size = 20000
	var l, want [][]int
	for i := range size {
		// All have the sign 1, each one its own, and each is within the one that follows.
		l = append(l, []int{1, i + 2}, []int{-size - 5, 1, i + 2})
		want = append(want, []int{1, i + 2})
	}
	checkLeast(t, l, want)
}

func TestP303ArgumentsStay(t *testing.T) {
	room := []int{3, -1, 2, 3, 9, 9, 9, 9}
	right := []int{-1, 2, 5, 9, 9, 9}
	outer := [][]int{room[:4], right[:3], {0}, {2}, {7}, {8}}
	oldRoom, oldRight := slices.Clone(room), slices.Clone(right)
	for _, l := range [][]int{room[:4], right[:3], room[:1], room[:0]} {
		Right(l)
		Of(l)
		Not(l)
		Within(l, room[:4])
		Within(right[:3], l)
		Meet(l, right[:3])
		Meet(right[:3], l)
		Resolve(l, right[:3], 1)
		Resolve([]int{1, 7}, l, 1)
	}
	Resolve([]int{1, 7}, right[:3], 1)
	Resolve(right[:3], []int{1, 7}, 1)
	Least(outer[:4])
	if !slices.Equal(room, oldRoom) || !slices.Equal(right, oldRight) {
		t.Errorf("P303: %v became %v, %v became %v", oldRoom, room, oldRight, right)
	}
	if !slices.EqualFunc(outer, [][]int{oldRoom[:4], oldRight[:3], {0}, {2}, {7}, {8}}, slices.Equal) {
		t.Errorf("P303: the lists became %v", outer)
	}
}

// spoil writes over all the room of a list.
func spoil(l []int) {
	l = l[:cap(l)]
	for i := range l {
		l[i] = 77
	}
}

func TestP303AnswersAreNewMemory(t *testing.T) {
	calls := []struct {
		name string
		call func(a, b []int) []int
	}{
		{"Of", func(a, b []int) []int { l, _ := Of(a); return l }},
		{"Not", func(a, b []int) []int { return Not(a) }},
		{"Meet", func(a, b []int) []int { return Meet(a, b) }},
		{"Meet of itself", func(a, b []int) []int { return Meet(a, a) }},
		{"Resolve", func(a, b []int) []int { l, _ := Resolve(a, b, 4); return l }},
		{"Least", func(a, b []int) []int { return Least([][]int{a, b})[0] }},
	}
	for _, c := range calls {
		a := append(make([]int, 0, 10), 1, 2, 4)
		b := append(make([]int, 0, 10), 1, 2, -4)
		got := c.call(a, b)
		before := slices.Clone(got)
		spoil(a)
		spoil(b)
		if !slices.Equal(got, before) {
			t.Errorf("P303: %s has kept its argument", c.name)
		}
		a = append(make([]int, 0, 10), 1, 2, 4)
		b = append(make([]int, 0, 10), 1, 2, -4)
		spoil(c.call(a, b))
		if !slices.Equal(a[:5], []int{1, 2, 4, 0, 0}) || !slices.Equal(b[:5], []int{1, 2, -4, 0, 0}) {
			t.Errorf("P303: %s shares memory with its argument", c.name)
		}
	}
}

func TestP303ListsOfLeastShareNothing(t *testing.T) {
	same := []int{1, 2}
	in := [][]int{same, {3, 4}, {5, 6}, same[:1:2], {-7, 8, 9}}
	want := [][]int{{3, 4}, {5, 6}, {1}, {-7, 8, 9}}
	for i := range want {
		got := Least(in)
		spoil(got[i])
		for j := range want {
			if i != j && !slices.Equal(got[j], want[j]) {
				t.Errorf("P303: lists %d and %d of an answer share memory", i, j)
			}
		}
	}
	if !slices.EqualFunc(in, [][]int{{1, 2}, {3, 4}, {5, 6}, {1}, {-7, 8, 9}}, slices.Equal) {
		t.Errorf("P303: the argument of Least became %v", in)
	}
}

func TestP303NothingIsKept(t *testing.T) {
	for range 3 {
		checkOf(t, []int{3, -1, 2}, []int{-1, 2, 3}, true)
		checkOf(t, []int{1, -1}, nil, false)
		checkWithin(t, []int{5}, []int{6}, false)
		checkWithin(t, []int{6}, []int{6}, true)
		checkMeet(t, []int{5, 6}, []int{6, 7}, []int{6})
		checkResolve(t, []int{1, 2}, []int{-1, 3}, 1, []int{2, 3}, true)
		checkLeast(t, [][]int{{2}, {1, 2}, {3}}, [][]int{{2}, {3}})
		checkLeast(t, [][]int{{1, 2}}, [][]int{{1, 2}})
	}
}
