package heap

import (
	"slices"

	"palaver/api"
	"palaver/shape"
	"palaver/words"
)

// Copy copies an object into another space; its age is given.
func (h *Heap) Copy(o api.Oop, sp api.Space, age int) (api.Oop, api.Errno) {
	b, err := h.find(o)
	if err != api.OK {
		return 0, err
	}
	if sp == api.Eden || !isFilled(sp) || !within(age, 0, api.MaxTenure) {
		return 0, api.ErrArg
	}
	x := b.head
	x.Age, x.Marked, x.Noted = age, false, false
	at, err := h.claim(sp, x)
	if err != api.OK {
		return 0, err
	}
	copy(h.put(at, x, 0).slots, b.slots)
	return address(at), api.OK
}

// Forward says that an object is another one now.
func (h *Heap) Forward(o, to api.Oop) api.Errno {
	b, err := h.find(o)
	if err != api.OK {
		return err
	}
	if !h.Is(to) || to == o {
		return api.ErrArg
	}
	h.areas[h.spaceAt(b.at)].forwards[o] = to
	h.remove(b)
	return api.OK
}

// Forwarded is that one; false: it is not forwarded.
func (h *Heap) Forwarded(o api.Oop) (api.Oop, bool) {
	at, _ := words.WordOf(o)
	to, is := h.areas[h.spaceAt(at)].forwards[o]
	return to, is
}

// Free makes an object a gap.
func (h *Heap) Free(o api.Oop) api.Errno {
	b, err := h.find(o)
	if err == api.OK {
		h.remove(b)
	}
	return err
}

// remove makes an object none.
func (h *Heap) remove(b object) {
	if b.head.Noted {
		h.unnote(b)
	}
	h.setStart(b.at, false)
	if h.spaceAt(b.at) == api.Pins {
		h.gaps.give(b.at, b.at+shape.Words(b.head))
	}
}

// Mark marks an object, or takes the mark away; whether it had one.
func (h *Heap) Mark(o api.Oop, mark bool) (bool, api.Errno) {
	b, err := h.find(o)
	if err != api.OK {
		return false, err
	}
	was := b.head.Marked
	b.head.Marked = mark
	h.setHead(b.at, b.head)
	return was, api.OK
}

// Replace goes through all oops of an object (0: of all roots), and lays what f makes of each in its place.
func (h *Heap) Replace(o api.Oop, f func(api.Oop) api.Oop) api.Errno {
	if o == 0 {
		for i := range h.roots() {
			replaceIn(h, func() []api.Oop { return h.roots()[i] }, f)
		}
		return api.OK
	}
	if !h.Is(o) {
		return api.ErrHeapOop
	}
	replaceIn(h, func() []uint64 {
		b, _ := h.find(o)
		return b.changeable()
	}, f)
	return api.OK
}

// replaceIn replaces in a list. f may use the heap: it may move the list, make it longer or shorter, or end it. So the list is asked for again behind each f, and goes no farther than at first.
func replaceIn[W ~uint64](h *Heap, list func() []W, f func(api.Oop) api.Oop) {
	l := list()
	for i := range len(l) {
		if i >= len(l) {
			return
		}
		v := api.Oop(l[i])
		if !h.Is(v) && !h.isForwarded(v) {
			continue
		}
		v = f(v)
		if l = list(); i < len(l) {
			l[i] = W(v)
		}
	}
}

func (h *Heap) isForwarded(o api.Oop) bool {
	_, is := h.Forwarded(o)
	return is
}

// Flip empties eden and past; what is in future is past then.
func (h *Heap) Flip() {
	h.empty(api.Eden)
	h.empty(api.Past)
	h.areas[api.Past], h.areas[api.Future] = h.areas[api.Future], h.areas[api.Past]
	h.sift()
}

// Slide moves old objects together; how many have moved.
func (h *Heap) Slide() int {
	begin := h.areas[api.Old].begin
	goals, end := h.goals()
	goal := func(o api.Oop) api.Oop {
		if h.Space(o) != api.Old {
			return o
		}
		at, _ := words.WordOf(o)
		return address(goals[at-begin])
	}
	// Which words name old objects is seen only as long as these have not moved.
	h.rename(goal)
	moved := 0
	for _, o := range slices.Collect(h.Walk(api.Old)) {
		if to := goal(o); to != o {
			h.move(o, to)
			moved++
		}
	}
	a := &h.areas[api.Old]
	*a = emptyArea(begin, a.end)
	a.top = end
	return moved
}

// goals are the words that the old objects go to, by the words of the old space; and where the last one ends then.
func (h *Heap) goals() ([]int, int) {
	a := h.areas[api.Old]
	l := make([]int, a.top-a.begin)
	end := a.begin
	for o := range h.Walk(api.Old) {
		b, _ := h.find(o)
		l[b.at-a.begin] = end
		end += shape.Words(b.head)
	}
	return l, end
}

// rename gives objects other names, wherever they are named.
func (h *Heap) rename(name func(api.Oop) api.Oop) {
	for sp := api.Eden; sp <= api.Pins; sp++ {
		for o := range h.Walk(sp) {
			b, _ := h.find(o)
			renameIn(b.oops(), name)
		}
		for from, to := range h.areas[sp].forwards {
			h.areas[sp].forwards[from] = name(to)
		}
	}
	for _, l := range h.roots() {
		renameIn(l, name)
	}
	h.noted.renew(name)
}

func renameIn[W ~uint64](l []W, name func(api.Oop) api.Oop) {
	for i, v := range l {
		l[i] = W(name(api.Oop(v)))
	}
}

// move moves an object down. It may overlap with where it was.
func (h *Heap) move(o, to api.Oop) {
	b, _ := h.find(o)
	at, _ := words.WordOf(to)
	size := shape.Words(b.head)
	copy(h.words[at:at+size:at+size], h.words[b.at:b.at+size])
	h.setStart(b.at, false)
	h.setStart(at, true)
}
