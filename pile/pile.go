// Package pile stands beside the layers: it is what container/heap puts in order for them.
package pile

// Pile is a heap: the first one of Items, as Before tells it, lies on top.
type Pile[T any] struct {
	Items  []T
	Before func(a, b T) bool
}

// Least tells an empty Pile of numbers: the least one will lie on top.
func Least() *Pile[int] {
	return &Pile[int]{Before: func(a, b int) bool { return a < b }}
}

// Len, Less, Swap, Push and Pop are for container/heap.
func (p *Pile[T]) Len() int { return len(p.Items) }

func (p *Pile[T]) Less(i, j int) bool { return p.Before(p.Items[i], p.Items[j]) }

func (p *Pile[T]) Swap(i, j int) { p.Items[i], p.Items[j] = p.Items[j], p.Items[i] }

func (p *Pile[T]) Push(x any) { p.Items = append(p.Items, x.(T)) }

func (p *Pile[T]) Pop() any {
	end := len(p.Items) - 1
	x := p.Items[end]
	p.Items = p.Items[:end]
	return x
}
