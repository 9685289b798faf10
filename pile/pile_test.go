package pile

import (
	"container/heap"
	"slices"
	"testing"
)

// emptied tells what a heap tells, one by one.
func emptied[T any](p *Pile[T]) []T {
	var all []T
	for p.Len() > 0 {
		all = append(all, heap.Pop(p).(T))
	}
	return all
}

func TestLeast(t *testing.T) {
	for _, x := range [][]int{nil, {5}, {2, 1}, {3, -7, 3, 0, 9, 2}, {6, 5, 4, 3, 2, 1, 0}} {
		p := Least()
		for _, n := range x {
			heap.Push(p, n)
		}
		if got := emptied(p); !slices.Equal(got, slices.Sorted(slices.Values(x))) {
			t.Errorf("of %v: %v", x, got)
		}
	}
}

func TestLeastBetween(t *testing.T) {
	p := Least()
	heap.Push(p, 5)
	heap.Push(p, 3)
	first := heap.Pop(p)
	heap.Push(p, 1)
	heap.Push(p, 9)
	if got := emptied(p); first != 3 || !slices.Equal(got, []int{1, 5, 9}) {
		t.Errorf("%v, then %v", first, got)
	}
}

func TestBefore(t *testing.T) {
	p := &Pile[string]{Items: []string{"bb", "a", "dddd", "ccc"}, Before: func(a, b string) bool { return len(a) > len(b) }}
	heap.Init(p)
	heap.Push(p, "eeeee")
	if got := emptied(p); !slices.Equal(got, []string{"eeeee", "dddd", "ccc", "bb", "a"}) {
		t.Errorf("%v", got)
	}
}
