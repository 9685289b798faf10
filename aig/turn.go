package aig

import (
	"container/heap"

	"retorter/api"
	"retorter/pile"
)

// queue holds which Ands may be taken next, and which ones wait for others.
type queue struct {
	ready *pile.Pile[int] // places: the first one lies on top
	waits []int           // how many sides of each And are Ands that were not taken
	users [][]int         // the places of those that wait for each And: twice, if both sides do
}

// inTurn tells the places of c's Ands as they are taken: again and again the first one whose sides are no Ands, or were taken. Those that hang on one that hangs on itself are left out.
func inTurn(c api.Circuit) []int {
	q := newQueue(c)
	order := make([]int, 0, len(c.Ands))
	for q.ready.Len() > 0 {
		order = append(order, q.take())
	}
	return order
}

// newQueue tells the queue of which none was taken.
func newQueue(c api.Circuit) *queue {
	q := &queue{ready: pile.Least(), waits: make([]int, len(c.Ands)), users: make([][]int, len(c.Ands))}
	place := andPlaces(c)
	for i, a := range c.Ands {
		for _, side := range []int{a.A, a.B} {
			if p := place[side/2]; p >= 0 {
				q.waits[i]++
				q.users[p] = append(q.users[p], i)
			}
		}
		if q.waits[i] == 0 {
			heap.Push(q.ready, i)
		}
	}
	return q
}

// take tells the first place that is ready, and lets those be ready that waited for it last.
func (q *queue) take() int {
	first := heap.Pop(q.ready).(int)
	for _, user := range q.users[first] {
		q.waits[user]--
		if q.waits[user] == 0 {
			heap.Push(q.ready, user)
		}
	}
	return first
}

// andPlaces tells of each variable, 0 to Max, its place among the Ands; -1 if it is none of them.
func andPlaces(c api.Circuit) []int {
	place := make([]int, c.Max+1)
	for v := range place {
		place[v] = -1
	}
	for i, a := range c.Ands {
		place[a.Lit/2] = i
	}
	return place
}
