package heap

import (
	"iter"
	"slices"

	"palaver/api"
)

// sequence is objects in an order, each of them once. Where one was taken out, there is a 0 till these are more than the objects: so one is taken out without a look at all others.
type sequence struct {
	list   []api.Oop
	places map[api.Oop]int
}

func (s *sequence) add(o api.Oop) {
	if s.places == nil {
		s.places = map[api.Oop]int{}
	}
	s.places[o] = len(s.list)
	s.list = append(s.list, o)
}

// remove takes an object out of the sequence that is in it.
func (s *sequence) remove(o api.Oop) {
	s.list[s.places[o]] = 0
	delete(s.places, o)
	if len(s.list) > 2*len(s.places) {
		s.renew(func(o api.Oop) api.Oop { return o })
	}
}

// renew gives the objects other names.
func (s *sequence) renew(name func(api.Oop) api.Oop) {
	before := s.list
	*s = sequence{}
	for _, o := range before {
		if o != 0 {
			s.add(name(o))
		}
	}
}

// Noted goes through the old objects that are remembered.
func (h *Heap) Noted() iter.Seq[api.Oop] {
	return func(yield func(api.Oop) bool) {
		for _, o := range h.noted.list {
			if o != 0 && !yield(o) {
				return
			}
		}
	}
}

// Note remembers an old object.
func (h *Heap) Note(o api.Oop) api.Errno {
	b, err := h.find(o)
	if err != api.OK {
		return err
	}
	if h.isYoung(o) {
		return api.ErrHeapKind
	}
	if !b.head.Noted {
		b.head.Noted = true
		h.setHead(b.at, b.head)
		h.noted.add(o)
	}
	return api.OK
}

// noteReference is what follows when a reference is stored in an object.
func (h *Heap) noteReference(o, v api.Oop) {
	if h.isYoung(v) {
		h.Note(o) // which refuses what is young itself
	}
}

// unnote forgets an object that is noted.
func (h *Heap) unnote(b object) {
	b.head.Noted = false
	h.setHead(b.at, b.head)
	h.noted.remove(address(b.at))
}

// sift forgets the noted objects that no longer refer to a young one.
func (h *Heap) sift() {
	for _, o := range slices.Collect(h.Noted()) {
		b, _ := h.find(o)
		if !slices.ContainsFunc(b.oops(), func(v uint64) bool { return h.isYoung(api.Oop(v)) }) {
			h.unnote(b)
		}
	}
}
