package cube

import (
	"container/heap"
	"slices"

	"retorter/pile"
)

// inOrder tells the items by the order that before gives, in new memory; those of one rank stand side by side.
func inOrder[T any](items []T, before func(a, b T) bool) []T {
	p := &pile.Pile[T]{Items: slices.Clone(items), Before: before}
	heap.Init(p)
	list := make([]T, 0, len(items))
	for p.Len() > 0 {
		list = append(list, heap.Pop(p).(T))
	}
	return list
}
