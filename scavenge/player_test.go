package scavenge_test

import (
	"math"

	"palaver/api"
)

// player does to a heap what it draws.
type player struct {
	*trial
	seed uint64
}

func (p *player) draw(below int) int {
	p.seed = p.seed*6364136223846793005 + 1442695040888963407
	return int(p.seed >> 33 % uint64(below))
}

func (p *player) words() int {
	return 2 + 2*p.z.Eden + 4*p.z.Survivor + p.z.Bound + p.z.Pins
}

// anObject is one of all objects; 0: there is none.
func (p *player) anObject() api.Oop {
	at := p.draw(p.words())
	for range p.words() {
		if p.h.Is(api.Oop(8 * at)) {
			return api.Oop(8 * at)
		}
		at = (at + 1) % p.words()
	}
	return 0
}

// reached is an object that a client may know: it follows references from a root. 0: it came to none.
func (p *player) reached() api.Oop {
	if p.h.Depth() == 0 {
		return 0
	}
	o, _ := p.h.Root(p.draw(p.h.Depth()))
	for range p.draw(4) {
		n, _ := p.h.Oops(o)
		if n == 0 {
			break
		}
		if v, _ := p.h.Slot(o, p.draw(n)); p.h.Is(v) {
			o = v
		}
	}
	if !p.h.Is(o) {
		return 0
	}
	return o
}

// create makes an object of a format that is drawn, with something in it.
func (p *player) create(sp api.Space) api.Oop {
	class, f := p.draw(4096), api.Format(1+p.draw(6))
	if f == api.FormatMethod {
		o, _ := p.h.AllocMethod(sp, class, p.draw(4), p.draw(12))
		return o
	}
	o, _ := p.h.Alloc(sp, class, f, p.draw(7))
	p.h.SetWord(o, 0, uint64(p.anObject()))
	p.h.SetByte(o, 0, byte(p.draw(256)))
	return o
}

// client does what a client of a memory may do: it makes young objects, old ones and pinned ones, and stores what it knows.
func (p *player) client() {
	switch o := p.reached(); p.draw(8) {
	case 0, 1, 2:
		if v := p.create([]api.Space{api.Eden, api.Eden, api.Eden, api.Old, api.Pins}[p.draw(5)]); v != 0 {
			p.keep(v)
		}
	case 3, 4, 5:
		n, _ := p.h.Oops(o)
		p.h.SetSlot(o, p.draw(n+1), []api.Oop{p.reached(), p.reached(), p.reached(), 9}[p.draw(4)])
	case 6:
		p.h.Hash(o)
		if p.draw(3) == 0 && p.h.Depth() > 3 {
			p.h.Pop()
		}
	case 7:
		p.roots(o)
	}
}

// keep lays an object on the stack of roots, or into one that is there.
func (p *player) keep(v api.Oop) {
	if p.h.Depth() < 12 {
		p.h.Push(v)
		return
	}
	o := p.reached()
	n, _ := p.h.Oops(o)
	if p.h.SetSlot(o, p.draw(n+1), v) != api.OK {
		p.h.SetRoot(p.draw(p.h.Depth()), v)
	}
}

// roots changes a root that isn't of the stack.
func (p *player) roots(v api.Oop) {
	switch p.draw(4) {
	case 0:
		p.h.SetSpecial(1+p.draw(3), v)
	case 1:
		p.h.SetClassAt([]int{0, 7, 4095}[p.draw(3)], v)
	case 2:
		p.h.Enqueue(v)
	case 3:
		p.h.Dequeue()
	}
}

// step does anything that the heap lets be done.
func (p *player) step() {
	o, v := p.anObject(), p.anObject()
	switch p.draw(14) {
	case 0, 1, 2, 3:
		p.client()
	case 4:
		p.create([]api.Space{api.Eden, api.Eden, api.Future, api.Old, api.Pins}[p.draw(5)])
	case 5, 6:
		n, _ := p.h.Oops(o)
		p.h.SetSlot(o, p.draw(n+1), v)
	case 7:
		p.roots(v)
		p.h.SetRoot(p.draw(p.h.Depth()+1), v)
	case 8:
		p.h.Note(o)
		p.h.Mark(v, p.draw(2) == 0)
	case 9:
		p.h.Copy(o, []api.Space{api.Future, api.Future, api.Old, api.Pins}[p.draw(4)], p.draw(16))
	case 10:
		if p.draw(4) == 0 {
			p.h.Forward(o, v)
		}
	case 11:
		if p.draw(4) == 0 {
			p.h.Free(o)
		}
	case 12, 13:
		p.spoil(o)
	}
}

// spoil lays words into an object, or into roots, for some of those that stand there: what isn't checked and isn't noted.
func (p *player) spoil(o api.Oop) {
	if p.draw(4) == 0 {
		o = 0
	}
	p.h.Replace(o, func(v api.Oop) api.Oop {
		switch p.draw(10) {
		case 0:
			return []api.Oop{0, 9, 3, 8, v + 8, v + 16, math.MaxUint64, 10, 1 << 31}[p.draw(9)]
		case 1:
			return api.Oop(8 * p.draw(p.words()+9))
		case 2:
			return p.anObject()
		}
		return v
	})
}

// makeRoom takes old and pinned objects that nothing is known to name out of the heap, when old is nearly full.
func (p *player) makeRoom() {
	if p.h.Room(api.Old) >= p.z.Eden+p.z.Survivor && p.h.Room(api.Pins) > 9 {
		return
	}
	named := map[api.Oop]bool{}
	var l []api.Oop
	name := func(v api.Oop) {
		if p.h.Is(v) && !named[v] {
			named[v] = true
			l = append(l, v)
		}
	}
	for v := range p.h.Roots() {
		name(v)
	}
	for i := 0; i < len(l); i++ {
		for _, v := range oopsOf(p.T, p.h, l[i]) {
			name(v)
		}
	}
	for _, sp := range allSpaces {
		var gone []api.Oop
		for o := range p.h.Walk(sp) {
			if !named[o] {
				gone = append(gone, o)
			}
		}
		for _, o := range gone {
			p.h.Free(o)
		}
	}
	p.h.Slide()
	for p.h.Room(api.Old) < p.z.Eden+p.z.Survivor && p.h.Depth() > 0 {
		p.h.Pop()
		if p.draw(3) == 0 {
			p.h.SetSpecial(1+p.draw(3), 0)
			p.h.Dequeue()
		}
		if p.h.Depth() == 0 {
			p.makeRoom()
		}
	}
}
