// Package trace finds the objects of a heap that live, for the layers that free the others and for those that only look; and it goes through all objects, and through the oops of one.
package trace

import (
	"iter"
	"slices"

	"palaver/api"
	"palaver/heap"
)

// Visited is a set of objects: those that were visited.
type Visited interface {
	// Add puts what an oop names into the set; whether that is an object, and was not in it.
	Add(o api.Oop) bool
	// Has tells whether an object is in the set.
	Has(o api.Oop) bool
}

// All goes through the objects of all spaces, in the order of these, and in each by rising addresses.
func All(h *heap.Heap) iter.Seq[api.Oop] {
	return func(yield func(api.Oop) bool) {
		for sp := api.Eden; sp <= api.Pins; sp++ {
			for o := range h.Walk(sp) {
				if !yield(o) {
					return
				}
			}
		}
	}
}

// IsYoung tells whether an oop is an object that a scavenge may move.
func IsYoung(h *heap.Heap, o api.Oop) bool {
	switch h.Space(o) {
	case api.Eden, api.Past, api.Future:
		return true
	}
	return false
}

// Oops goes through an object's oops, with their indexes.
func Oops(h *heap.Heap, o api.Oop) iter.Seq2[int, api.Oop] {
	return func(yield func(int, api.Oop) bool) {
		n, _ := h.Oops(o)
		for i := range n {
			if v, _ := h.Slot(o, i); !yield(i, v) {
				return
			}
		}
	}
}

// tracing is what was found to live so far.
type tracing struct {
	heap    *heap.Heap
	visited Visited
	queue   []api.Oop // what was visited, in that order
	waiting waiting
	fired   []api.Oop
}

// Living is the objects that live, in the order in which they are visited, and the ephemerons that fire, in theirs. It puts the living ones into a set in which nothing is yet, and beside that changes nothing: an ephemeron that fires keeps its format.
func Living(h *heap.Heap, visited Visited) (living, fired []api.Oop) {
	t := &tracing{heap: h, visited: visited}
	// To put an object into the set may change the heap, which may not be while its roots are gone through.
	for _, v := range slices.Collect(h.Roots()) {
		t.visit(v)
	}
	next := 0
rounds:
	for {
		for ; next < len(t.queue); next++ {
			t.process(t.queue[next])
		}
		switch {
		case t.waiting.look(t.visitOops):
		case t.fire():
		default:
			break rounds
		}
	}
	return t.queue, t.fired
}

// visit appends an object to the queue, the first time that it is called for it.
func (t *tracing) visit(o api.Oop) {
	if t.visited.Add(o) {
		t.queue = append(t.queue, o)
		t.waiting.lives(o)
	}
}

func (t *tracing) visitOops(o api.Oop) {
	for _, v := range Oops(t.heap, o) {
		t.visit(v)
	}
}

// process visits what an object of the queue keeps alive.
func (t *tracing) process(o api.Oop) {
	x, _ := t.heap.Head(o)
	switch x.Format {
	case api.FormatEphemeron:
		if key, _ := t.heap.Slot(o, 0); t.heap.Is(key) && !t.visited.Has(key) {
			t.waiting.add(o, key)
			return
		}
		fallthrough
	case api.FormatPointers, api.FormatMethod:
		t.visitOops(o)
	}
}

// fire lets all ephemerons fire that wait; whether there were any.
func (t *tracing) fire() bool {
	l := t.waiting.takeAll()
	for _, o := range l {
		t.visitOops(o)
	}
	t.fired = append(t.fired, l...)
	return len(l) > 0
}
