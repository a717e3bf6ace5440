package order

import (
	"slices"
)

// out is the place of an element that is not in the queue.
const out = -1

// queue is a binary heap of elements that have numbers, from 0 on. An element keeps its number and its value while it is not in the queue.
type queue[T any] struct {
	all    []T               // the value of each element
	before func(a, b T) bool // whether an element with the value a is popped before one with the value b
	tree   []int             // the elements in the queue; that at i is not popped after those at 2i+1 and 2i+2
	place  []int             // for each element: where it is in tree
}

// start returns a queue of elements with these values, all of which are in it.
func start[T any](all []T, before func(a, b T) bool) queue[T] {
	q := queue[T]{
		all:    all,
		before: before,
		tree:   make([]int, 0, len(all)),
		place:  slices.Repeat([]int{out}, len(all)),
	}
	for i := range all {
		q.push(i)
	}
	return q
}

// copy returns a queue that shares no memory with this one.
func (q *queue[T]) copy() queue[T] {
	return queue[T]{
		all:    slices.Clone(q.all),
		before: q.before,
		tree:   slices.Clone(q.tree),
		place:  slices.Clone(q.place),
	}
}

// has reports whether an element is in the queue.
func (q *queue[T]) has(i int) bool {
	return q.place[i] != out
}

// push puts in an element that is not in the queue.
func (q *queue[T]) push(i int) {
	q.tree = append(q.tree, i)
	q.rise(i, len(q.tree)-1)
}

// pop takes out the first element of a queue that is not empty.
func (q *queue[T]) pop() int {
	first, end := q.tree[0], len(q.tree)-1
	last := q.tree[end]
	q.tree = q.tree[:end]
	q.place[first] = out
	if end > 0 {
		q.sink(last, 0)
	}
	return first
}

// advance gives an element another value, with which it is not popped later than before.
func (q *queue[T]) advance(i int, value T) {
	q.all[i] = value
	if q.has(i) {
		q.rise(i, q.place[i])
	}
}

// rise puts an element at a place, or above it.
func (q *queue[T]) rise(i, at int) {
	for at > 0 {
		above := (at - 1) / 2
		if !q.precedes(i, q.tree[above]) {
			break
		}
		q.put(q.tree[above], at)
		at = above
	}
	q.put(i, at)
}

// sink puts an element at a place, or below it.
func (q *queue[T]) sink(i, at int) {
	for below := q.below(at); below < len(q.tree) && q.precedes(q.tree[below], i); below = q.below(at) {
		q.put(q.tree[below], at)
		at = below
	}
	q.put(i, at)
}

// below returns that of the two places below a place whose element is popped first; if there is none, a place behind the tree.
func (q *queue[T]) below(at int) int {
	left, right := 2*at+1, 2*at+2
	if right < len(q.tree) && q.precedes(q.tree[right], q.tree[left]) {
		return right
	}
	return left
}

// precedes reports whether an element is popped before another one.
func (q *queue[T]) precedes(i, j int) bool {
	return q.before(q.all[i], q.all[j])
}

// put puts an element at a place.
func (q *queue[T]) put(i, at int) {
	q.tree[at] = i
	q.place[i] = at
}
