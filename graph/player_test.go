package graph_test

import (
	"math"

	"palaver/api"
	"palaver/scavenge"
)

// player does to a heap what it draws.
type player struct {
	*trial
	seed uint64
}

func (p *player) draw(below int) int {
	p.seed = p.seed*6364136223846793005 + 1442695040888963407
	return int(p.seed >> 33 % uint64(below))
}

func (p *player) words() int {
	return 2 + 2*p.z.Eden + 4*p.z.Survivor + p.z.Bound + p.z.Pins
}

// anObject is one of all objects; 0: there is none.
func (p *player) anObject() api.Oop {
	at := p.draw(p.words())
	for range p.words() {
		if p.h.Is(api.Oop(8 * at)) {
			return api.Oop(8 * at)
		}
		at = (at + 1) % p.words()
	}
	return 0
}

// aSpace is one in which clients make objects, most often eden or old.
func (p *player) aSpace() api.Space {
	return []api.Space{api.Eden, api.Eden, api.Eden, api.Old, api.Old, api.Old, api.Pins}[p.draw(7)]
}

// aFormat is most often that of a weak object or of an ephemeron.
func (p *player) aFormat() api.Format {
	return []api.Format{1, 1, 2, 2, 3, 3, 3, 3, 4, 5, 6}[p.draw(11)]
}

// create makes an object with something in it: most of its oops are objects.
func (p *player) create(sp api.Space) api.Oop {
	f, class := p.aFormat(), p.draw(4096)
	if f == api.FormatMethod {
		o, _ := p.h.AllocMethod(sp, class, p.draw(4), p.draw(12))
		return o
	}
	o, _ := p.h.Alloc(sp, class, f, p.draw(5))
	p.h.SetWord(o, 0, uint64(p.anObject()))
	p.h.SetByte(o, 0, byte(p.draw(256)))
	n, _ := p.h.Oops(o)
	for i := range n {
		if v := p.anObject(); p.draw(8) > 0 {
			p.h.SetSlot(o, i, v)
		}
	}
	return o
}

// hang makes an object that a weak object or an ephemeron alone names, and lets a root name that.
func (p *player) hang() {
	v := p.create(p.aSpace())
	o, e := p.h.Alloc(p.aSpace(), p.draw(4096), []api.Format{api.FormatWeak, api.FormatEphemeron}[p.draw(2)], 2)
	if e == api.OK {
		p.h.SetSlot(o, 0, v)
		p.h.SetSlot(o, 1, p.anObject())
		p.h.Push(o)
	}
}

// client does what a client of a memory may do: a sound heap stays so.
func (p *player) client() {
	o, v := p.anObject(), p.anObject()
	n, _ := p.h.Oops(o)
	switch p.draw(12) {
	case 0:
		p.hang()
	case 1, 2, 3:
		if made := p.create(p.aSpace()); p.draw(3) == 0 {
			p.h.Push(made)
		}
	case 4, 5, 6:
		p.h.SetSlot(o, p.draw(n+1), []api.Oop{v, v, v, 9, 0, 10}[p.draw(6)])
	case 7:
		p.h.Hash(o)
		p.h.SetFormat(o, p.aFormat())
	case 8:
		p.roots(v)
	case 9:
		p.h.Pop()
		p.h.Dequeue()
	case 10, 11:
		if p.draw(12) == 0 {
			p.scavenge()
		}
	}
}

// roots changes one root.
func (p *player) roots(v api.Oop) {
	switch p.draw(6) {
	case 0:
		p.h.SetSpecial(p.draw(3), []api.Oop{v, 0, 9}[p.draw(3)])
	case 1:
		p.h.SetClassAt([]int{0, 7, 4095}[p.draw(3)], v)
	case 2:
		p.h.Enqueue(v)
	case 3:
		p.h.SetSpecial(p.draw(3), 0)
		p.h.SetClassAt([]int{0, 7, 4095}[p.draw(3)], 0)
	case 4, 5:
		p.h.SetRoot(p.draw(p.h.Depth()+1), v)
	}
}

// scavenge empties eden, if old has room for what is in it.
func (p *player) scavenge() {
	if _, e := scavenge.Run(p.h, p.draw(4)); e == api.OK {
		p.flips++
	}
}

// makeRoom leaves fewer roots, when a space is nearly full, and behind a run so fewer objects.
func (p *player) makeRoom() {
	if p.h.Room(api.Eden) < 12 || p.h.Room(api.Future) < 8 {
		p.scavenge()
	}
	if p.h.Room(api.Old) > p.z.Eden {
		return
	}
	for range 1 + p.h.Depth()/2 {
		p.h.Pop()
		p.h.Dequeue()
	}
	for i := range 3 {
		p.h.SetSpecial(i, 0)
		p.h.SetClassAt([]int{0, 7, 4095}[i], 0)
	}
}

// step does anything that the heap lets be done, also what makes it unsound.
func (p *player) step() {
	o, v := p.anObject(), p.anObject()
	switch p.draw(12) {
	default:
		p.client()
	case 7:
		p.h.Note(o)
		p.h.Mark(v, p.draw(2) == 0)
	case 8:
		p.h.Copy(o, []api.Space{api.Future, api.Old, api.Pins}[p.draw(3)], p.draw(16))
	case 9:
		if p.draw(4) == 0 {
			p.h.Forward(o, v)
		}
	case 10:
		p.create(api.Future)
		if p.draw(4) == 0 {
			p.h.Free(o)
		}
	case 11:
		p.waste(o)
	}
}

// waste lays words into an object, or into roots, for some of those that stand there: what isn't checked and isn't noted.
func (p *player) waste(o api.Oop) {
	if p.draw(4) == 0 {
		o = 0
	}
	p.h.Replace(o, func(v api.Oop) api.Oop {
		switch p.draw(8) {
		case 0:
			return []api.Oop{0, 9, 3, 8, v + 8, v + 16, math.MaxUint64, 10, 1 << 31}[p.draw(9)]
		case 1:
			return api.Oop(8 * p.draw(p.words()+9))
		case 2:
			return p.anObject()
		}
		return v
	})
}
