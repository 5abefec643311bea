package plan

import (
	"container/heap"

	"delphi/api"
)

// gone is where a literal stands that does not wait any more.
const gone = -1

// Whose turn it is: the lowest goes ahead.
const (
	turnReady = iota // a comparison or negated atom, all of whose variables are bound
	turnAtom
	turnLast // one that is not ready, and one of no known kind, which nothing takes as long as there is another
)

// waiter is what a literal's turn hangs on.
type waiter struct {
	kind  int
	bound int // of its terms, those that are bound
	free  int // of its terms, the variables that are not bound yet
	at    int // where in the heap it stands
}

func waiterOf(l api.Literal) waiter {
	w := waiter{kind: l.Kind, at: gone}
	for _, t := range l.Args {
		switch t.Kind {
		case api.TVar:
			w.free++
		case api.TWord, api.TInt:
			w.bound++
		}
	}
	return w
}

func (w waiter) turn() int {
	switch w.kind {
	case api.LAtom:
		return turnAtom
	case api.LNot, api.LEq, api.LNe, api.LLt, api.LLe:
		if w.free == 0 {
			return turnReady
		}
	}
	return turnLast
}

// queue is a heap of the places of the literals that wait; its top is the next one.
type queue struct {
	places  []int
	waiters []waiter // of each literal of the body, by its place
}

// add lets the body's next literal wait.
func (q *queue) add(w waiter) {
	q.waiters = append(q.waiters, w)
	heap.Push(q, len(q.waiters)-1)
}

// next takes the literal whose turn it is.
func (q *queue) next() int {
	return heap.Pop(q).(int)
}

// remove takes a literal that waits out of its turn.
func (q *queue) remove(place int) int {
	return heap.Remove(q, q.waiters[place].at).(int)
}

// bindTerm says that one more term of the literal is bound.
func (q *queue) bindTerm(place int) {
	w := &q.waiters[place]
	w.bound++
	w.free--
	if w.at != gone {
		heap.Fix(q, w.at)
	}
}

// Len is heap.Interface's.
func (q *queue) Len() int { return len(q.places) }

// Less is heap.Interface's: no two literals are equal, so the heap's own ways are not to be seen in the order.
func (q *queue) Less(i, j int) bool {
	a, b := q.waiters[q.places[i]], q.waiters[q.places[j]]
	if a.turn() != b.turn() {
		return a.turn() < b.turn()
	}
	if a.turn() == turnAtom && a.bound != b.bound {
		return a.bound > b.bound
	}
	return q.places[i] < q.places[j]
}

// Swap is heap.Interface's.
func (q *queue) Swap(i, j int) {
	q.places[i], q.places[j] = q.places[j], q.places[i]
	q.waiters[q.places[i]].at = i
	q.waiters[q.places[j]].at = j
}

// Push is heap.Interface's; x is a place.
func (q *queue) Push(x any) {
	place := x.(int)
	q.waiters[place].at = len(q.places)
	q.places = append(q.places, place)
}

// Pop is heap.Interface's; it answers a place.
func (q *queue) Pop() any {
	last := len(q.places) - 1
	place := q.places[last]
	q.places = q.places[:last]
	q.waiters[place].at = gone
	return place
}
