package graph

import (
	"palaver/api"
	"palaver/heap"
	"palaver/trace"
	"palaver/words"
)

// census is the objects that were visited, in that order, with their numbers.
type census struct {
	numbers
	queue  []api.Oop
	leaves map[int]struct{} // the classes whose objects' oops are not followed
}

func newCensus(h *heap.Heap, leaves ...int) *census {
	c := &census{numbers: newNumbers(h), leaves: map[int]struct{}{}}
	for _, class := range leaves {
		c.leaves[class] = struct{}{}
	}
	return c
}

// visit appends an object to the queue, the first time that it is called for it.
func (c *census) visit(o api.Oop) {
	if c.Add(o) {
		c.queue = append(c.queue, o)
	}
}

// follow lets the objects of the queue visit what they refer to, and then what comes into the queue meanwhile.
func (c *census) follow() {
	for next := 0; next < len(c.queue); next++ {
		o := c.queue[next]
		if x, _ := c.heap.Head(o); c.isLeaf(x) {
			continue
		}
		for _, v := range trace.Oops(c.heap, o) {
			c.visit(v)
		}
	}
}

func (c *census) isLeaf(x api.Header) bool {
	_, is := c.leaves[x.Class]
	return is
}

// appendObject appends an object with that header, of which a caller may have left out something.
func (c *census) appendObject(l []uint64, o api.Oop, x api.Header) []uint64 {
	l = appendHead(l, x)
	for _, v := range trace.Oops(c.heap, o) {
		l = append(l, c.name(v))
	}
	if x.Format == api.FormatWords {
		return appendWords(l, c.heap, o)
	}
	return appendBytes(l, c.heap, o)
}

// appendHead appends a header without what collections change in it.
func appendHead(l []uint64, x api.Header) []uint64 {
	x.Age, x.Marked, x.Noted = 0, false, false
	a, b, _ := words.Pack(x)
	return append(l, a, b)
}

func appendWords(l []uint64, h *heap.Heap, o api.Oop) []uint64 {
	x, _ := h.Head(o)
	for i := range x.Slots {
		w, _ := h.Word(o, i)
		l = append(l, w)
	}
	return l
}

// appendBytes appends an object's bytes as they stand in its slots: the first one of a slot is the lowest.
func appendBytes(l []uint64, h *heap.Heap, o api.Oop) []uint64 {
	const (
		slotBytes = 8
		byteBits  = 8
	)
	n, _ := h.Bytes(o)
	slots := make([]uint64, (n+slotBytes-1)/slotBytes)
	for i := range n {
		b, _ := h.Byte(o, i)
		slots[i/slotBytes] |= uint64(b) << (i % slotBytes * byteBits)
	}
	return append(l, slots...)
}
