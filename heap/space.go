package heap

import (
	"iter"
	"math/bits"

	"palaver/api"
	"palaver/words"
)

const (
	firstWord = 2  // where eden begins
	startBits = 64 // in a word of the bits that tell where objects begin
)

// area is the range of words that is a space now. Of its words from top on none is an object's.
type area struct {
	begin    int
	top      int
	end      int
	forwards map[api.Oop]api.Oop // where the addresses in it were forwarded to
}

func emptyArea(begin, end int) area {
	return area{begin: begin, top: begin, end: end, forwards: map[api.Oop]api.Oop{}}
}

// area is that of a space: without words, if it is not a space.
func (h *Heap) area(sp api.Space) area {
	if sp > api.Pins {
		return area{}
	}
	return h.areas[sp]
}

// spaceAt is the space that a word lies in; 0: in none.
func (h *Heap) spaceAt(at int) api.Space {
	for sp := api.Eden; sp <= api.Pins; sp++ {
		if at >= h.areas[sp].begin && at < h.areas[sp].end {
			return sp
		}
	}
	return 0
}

func (h *Heap) isYoung(o api.Oop) bool {
	switch h.Space(o) {
	case api.Eden, api.Past, api.Future:
		return true
	}
	return false
}

// address is the oop of an object that begins at a word.
func address(at int) api.Oop {
	o, _ := words.Object(at)
	return o
}

// startsAt tells whether an object begins at a word, which may lie outside of the memory.
func (h *Heap) startsAt(at int) bool {
	return at < len(h.words) && h.starts[at/startBits]>>(at%startBits)&1 == 1
}

func (h *Heap) setStart(at int, is bool) {
	bit := uint64(1) << (at % startBits)
	if is {
		h.starts[at/startBits] |= bit
	} else {
		h.starts[at/startBits] &^= bit
	}
}

// nextStart is the first word of a range at which an object begins, or the range's end.
func (h *Heap) nextStart(at, end int) int {
	for at < end {
		if rest := h.starts[at/startBits] >> (at % startBits); rest != 0 {
			return min(at+bits.TrailingZeros64(rest), end)
		}
		at += startBits - at%startBits
	}
	return end
}

// Walk goes through the objects of a space, by rising addresses.
func (h *Heap) Walk(sp api.Space) iter.Seq[api.Oop] {
	return func(yield func(api.Oop) bool) {
		a := h.area(sp)
		for at := h.nextStart(a.begin, a.top); at < a.top; at = h.nextStart(at+1, a.top) {
			if !yield(address(at)) {
				return
			}
		}
	}
}

// empty takes all objects and all forwarded addresses out of a space.
func (h *Heap) empty(sp api.Space) {
	a := h.areas[sp]
	for at := h.nextStart(a.begin, a.top); at < a.top; at = h.nextStart(at+1, a.top) {
		h.setStart(at, false)
	}
	h.areas[sp] = emptyArea(a.begin, a.end)
}
