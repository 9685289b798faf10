package cube

import (
	"container/heap"
	"slices"
)

// pile is a heap: the first one by its order lies on top.
type pile[T any] struct {
	items  []T
	before func(a, b T) bool
}

func (p *pile[T]) Len() int { return len(p.items) }

func (p *pile[T]) Less(i, j int) bool { return p.before(p.items[i], p.items[j]) }

func (p *pile[T]) Swap(i, j int) { p.items[i], p.items[j] = p.items[j], p.items[i] }

func (p *pile[T]) Push(x any) { p.items = append(p.items, x.(T)) }

func (p *pile[T]) Pop() any {
	end := len(p.items) - 1
	x := p.items[end]
	p.items = p.items[:end]
	return x
}

// inOrder tells the items by the order that before gives, in new memory; those of one rank stand side by side.
func inOrder[T any](items []T, before func(a, b T) bool) []T {
	p := &pile[T]{slices.Clone(items), before}
	heap.Init(p)
	list := make([]T, 0, len(items))
	for p.Len() > 0 {
		list = append(list, heap.Pop(p).(T))
	}
	return list
}
