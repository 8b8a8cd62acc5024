package compact

import (
	"palaver/api"
	"palaver/heap"
)

// marks are a set of objects by the marks of a heap's objects.
type marks struct{ heap *heap.Heap }

// Add marks what an oop names; whether that is an object, and was not marked.
func (m marks) Add(o api.Oop) bool {
	marked, err := m.heap.Mark(o, true)
	return err == api.OK && !marked
}

// Has tells whether an object is marked.
func (m marks) Has(o api.Oop) bool {
	x, _ := m.heap.Head(o)
	return x.Marked
}

func unmark(h *heap.Heap, l []api.Oop) {
	for _, o := range l {
		h.Mark(o, false)
	}
}

// isUnmarked tells whether an oop names an object, and one that is not marked.
func isUnmarked(h *heap.Heap, o api.Oop) bool {
	return h.Is(o) && !marks{h}.Has(o)
}
