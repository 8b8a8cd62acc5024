package compact

import (
	"slices"

	"palaver/api"
	"palaver/heap"
)

// tracing is what was found to live so far. What was visited is marked.
type tracing struct {
	heap    *heap.Heap
	queue   []api.Oop // what was visited, in that order
	waiting waiting
	fired   []api.Oop
}

// trace marks what lives; the living objects, and the ephemerons that have fired.
func trace(h *heap.Heap) (living, fired []api.Oop) {
	t := &tracing{heap: h}
	for _, v := range slices.Collect(h.Roots()) {
		t.visit(v)
	}
	next := 0
rounds:
	for {
		for ; next < len(t.queue); next++ {
			t.process(t.queue[next])
		}
		switch {
		case t.waiting.look(t.visitOops):
		case t.fire():
		default:
			break rounds
		}
	}
	return t.queue, t.fired
}

// visit appends an object to the queue, the first time that it is called for it.
func (t *tracing) visit(o api.Oop) {
	marked, err := t.heap.Mark(o, true)
	if err != api.OK || marked {
		return
	}
	t.queue = append(t.queue, o)
	t.waiting.lives(o)
}

func (t *tracing) visitOops(o api.Oop) {
	for _, v := range oops(t.heap, o) {
		t.visit(v)
	}
}

// process visits what an object of the queue keeps alive.
func (t *tracing) process(o api.Oop) {
	x, _ := t.heap.Head(o)
	switch x.Format {
	case api.FormatEphemeron:
		if key, _ := t.heap.Slot(o, 0); isUnmarked(t.heap, key) {
			t.waiting.add(o, key)
			return
		}
		fallthrough
	case api.FormatPointers, api.FormatMethod:
		t.visitOops(o)
	}
}

// fire lets all ephemerons fire that wait; whether there were any.
func (t *tracing) fire() bool {
	l := t.waiting.takeAll()
	for _, o := range l {
		t.heap.SetFormat(o, api.FormatPointers)
		t.visitOops(o)
	}
	t.fired = append(t.fired, l...)
	return len(l) > 0
}
