package compact

import (
	"palaver/api"
	"palaver/heap"
	"palaver/trace"
	"palaver/words"
)

// Check tells whether a heap is sound; the object that is not.
func Check(h *heap.Heap) (api.Errno, api.Oop) {
	for v := range h.Roots() {
		if !isKnown(h, v) {
			return api.ErrHeapRoot, 0
		}
	}
	for o := range trace.All(h) {
		if err := checkObject(h, o); err != api.OK {
			return err, o
		}
	}
	return api.OK, 0
}

// isKnown tells whether an oop is one that a heap may refer to.
func isKnown(h *heap.Heap, v api.Oop) bool {
	switch words.Tag(v) {
	case api.TagNone, api.TagSmall, api.TagChar:
		return true
	}
	return h.Is(v)
}

func checkObject(h *heap.Heap, o api.Oop) api.Errno {
	namesYoung := false
	for _, v := range trace.Oops(h, o) {
		if !isKnown(h, v) {
			return api.ErrHeapOop
		}
		namesYoung = namesYoung || trace.IsYoung(h, v)
	}
	x, _ := h.Head(o)
	switch {
	case namesYoung && !x.Noted && !trace.IsYoung(h, o):
		return api.ErrHeapKind
	case x.Marked:
		return api.ErrArg
	}
	return api.OK
}
