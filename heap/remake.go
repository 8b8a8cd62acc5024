package heap

import (
	"palaver/api"
	"palaver/shape"
	"palaver/words"
)

// Given is how many hashes were given.
func (h *Heap) Given() int { return h.given }

// SetGiven says how many were.
func (h *Heap) SetGiven(n int) api.Errno {
	if !isIndex(n, api.MaxHash) {
		return api.ErrArg
	}
	h.given = n
	return api.OK
}

// Place is where in pins an object is.
func (h *Heap) Place(o api.Oop) int {
	if h.Space(o) != api.Pins {
		return -1
	}
	at, _ := words.WordOf(o)
	return at - h.areas[api.Pins].begin
}

// Remake makes an object with a header, in old, or at a place of pins.
func (h *Heap) Remake(at int, x api.Header, literals int) (api.Oop, api.Errno) {
	if at < -1 || !shape.Suits(x, literals) {
		return 0, api.ErrArg
	}
	begin, err := h.claimAt(at, x)
	if err != api.OK {
		return 0, err
	}
	h.put(begin, x, literals)
	return address(begin), api.OK
}

// claimAt takes the words of an object, as claim does: from old if the place is -1, else at that place of pins.
func (h *Heap) claimAt(at int, x api.Header) (int, api.Errno) {
	if at == -1 {
		return h.claim(api.Old, x)
	}
	pins := h.area(api.Pins)
	size := shape.Words(x)
	// Compared so, because the sum of both may be no int.
	if at > pins.end-pins.begin-size {
		return 0, api.ErrHeapFull
	}
	begin := pins.begin + at
	return begin, h.gaps.take(begin, begin+size)
}
