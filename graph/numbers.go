package graph

import (
	"palaver/api"
	"palaver/heap"
	"palaver/words"
)

const badName = 4 // of a word that is no oop, or names no object

// numbers are those of the objects that were visited, from 1 on.
type numbers struct {
	heap  *heap.Heap
	byOop map[api.Oop]uint64
}

func newNumbers(h *heap.Heap) numbers {
	return numbers{heap: h, byOop: map[api.Oop]uint64{}}
}

// Add gives what an oop names the next number; whether that is an object, and had none.
func (n numbers) Add(o api.Oop) bool {
	if n.Has(o) || !n.heap.Is(o) {
		return false
	}
	n.byOop[o] = uint64(len(n.byOop)) + 1
	return true
}

// Has tells whether an object has a number.
func (n numbers) Has(o api.Oop) bool {
	_, is := n.byOop[o]
	return is
}

// name is what stands for an oop, wherever the objects lie.
func (n numbers) name(v api.Oop) uint64 {
	if k, is := n.byOop[v]; is {
		return 8 * k
	}
	switch words.Tag(v) {
	case api.TagNone, api.TagSmall, api.TagChar:
		return uint64(v)
	}
	return badName
}
