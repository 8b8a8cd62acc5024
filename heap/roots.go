package heap

import (
	"iter"

	"palaver/api"
)

// roots are the lists of roots, in their order.
func (h *Heap) roots() [4][]api.Oop {
	return [...][]api.Oop{h.specials[:], h.classes[:], h.stack, h.queue}
}

func rootIn(l []api.Oop, i int) (api.Oop, api.Errno) {
	if !isIndex(i, len(l)) {
		return 0, api.ErrHeapRoot
	}
	return l[i], api.OK
}

func (h *Heap) setRootIn(l []api.Oop, i int, v api.Oop) api.Errno {
	if !isIndex(i, len(l)) {
		return api.ErrHeapRoot
	}
	if !h.isStorable(v) {
		return api.ErrArg
	}
	l[i] = v
	return api.OK
}

// Special is one of the things that are always there.
func (h *Heap) Special(i int) (api.Oop, api.Errno) { return rootIn(h.specials[:], i) }

// SetSpecial lays another one there.
func (h *Heap) SetSpecial(i int, v api.Oop) api.Errno { return h.setRootIn(h.specials[:], i, v) }

// ClassAt is what stands in the table of classes.
func (h *Heap) ClassAt(class int) (api.Oop, api.Errno) { return rootIn(h.classes[:], class) }

// SetClassAt lays another one there.
func (h *Heap) SetClassAt(class int, v api.Oop) api.Errno {
	return h.setRootIn(h.classes[:], class, v)
}

// Push lays an oop on the stack of roots; its place.
func (h *Heap) Push(v api.Oop) (int, api.Errno) {
	if len(h.stack) == api.MaxRoots {
		return 0, api.ErrHeapRoot
	}
	if !h.isStorable(v) {
		return 0, api.ErrArg
	}
	h.stack = append(h.stack, v)
	return len(h.stack) - 1, api.OK
}

// Pop takes the last one off.
func (h *Heap) Pop() (api.Oop, api.Errno) {
	last := len(h.stack) - 1
	v, err := rootIn(h.stack, last)
	if err == api.OK {
		h.stack = h.stack[:last]
	}
	return v, err
}

// Root is one of the stack.
func (h *Heap) Root(i int) (api.Oop, api.Errno) { return rootIn(h.stack, i) }

// SetRoot lays another one there.
func (h *Heap) SetRoot(i int, v api.Oop) api.Errno { return h.setRootIn(h.stack, i, v) }

// Depth is how many there are.
func (h *Heap) Depth() int { return len(h.stack) }

// Enqueue lays an object into the queue of what is to be finalized.
func (h *Heap) Enqueue(o api.Oop) api.Errno {
	if !h.Is(o) {
		return api.ErrHeapOop
	}
	h.queue = append(h.queue, o)
	return api.OK
}

// Dequeue takes the first one out; 0: there is none.
func (h *Heap) Dequeue() api.Oop {
	if len(h.queue) == 0 {
		return 0
	}
	o := h.queue[0]
	h.queue = h.queue[1:]
	return o
}

// Queued is how many there are.
func (h *Heap) Queued() int { return len(h.queue) }

// Roots goes through all roots: specials, classes, the stack, the queue.
func (h *Heap) Roots() iter.Seq[api.Oop] {
	return func(yield func(api.Oop) bool) {
		for _, l := range h.roots() {
			for _, o := range l {
				if !yield(o) {
					return
				}
			}
		}
	}
}
