package heap_test

import (
	"fmt"
	"math"
	"slices"
	"testing"

	"palaver/api"
	"palaver/heap"
)

// pair is a heap and its model, to which the same is done, and what is drawn for them.
type pair struct {
	t    *testing.T
	h    *heap.Heap
	m    *model
	seed uint64
	what string
}

func (p *pair) draw(below int) int {
	p.seed = p.seed*6364136223846793005 + 1442695040888963407
	return int(p.seed >> 33 % uint64(below))
}

func (p *pair) anObject() api.Oop {
	if len(p.m.things) == 0 {
		return 0
	}
	at := p.draw(int(p.m.end()) / 8)
	for p.m.things[api.Oop(8*at)] == nil {
		at = (at + 1) % (int(p.m.end()) / 8)
	}
	return api.Oop(8 * at)
}

// anOop is mostly an object.
func (p *pair) anOop() api.Oop {
	switch p.draw(12) {
	case 0:
		return []api.Oop{0, 1, 9, 2, 2097151*8 + 2, math.MaxUint64, 3, 4, 2097152*8 + 2, 1 << 31, 1<<31 - 8, 8}[p.draw(12)]
	case 1, 2:
		return api.Oop(8 * p.draw(int(p.m.end())/8+8))
	}
	return p.anObject()
}

func (p *pair) aSpace() api.Space {
	return []api.Space{0, 1, 1, 1, 2, 3, 3, 4, 4, 4, 5, 5, 5, 6}[p.draw(14)]
}

func (p *pair) aClass() int {
	return []int{-1, 0, 1, 5, 4094, 4095, 4096}[p.draw(7)]
}

func (p *pair) aHeader() api.Header {
	x := api.Header{Class: p.draw(4096), Format: api.Format(1 + p.draw(6)), Hash: p.draw(4194304), Age: p.draw(16), Slots: p.draw(6)}
	if x.Format >= api.FormatBytes && p.draw(4) > 0 {
		x.Spare = p.draw(8)
	}
	switch p.draw(12) {
	case 0:
		x.Marked = true
	case 1:
		x.Noted = true
	case 2:
		x.Class = p.aClass()
	case 3:
		x.Format = api.Format(p.draw(9))
	}
	return x
}

func check[T comparable](p *pair, got, want T, e, f api.Errno) {
	p.t.Helper()
	if got != want || e != f {
		p.t.Fatalf("%s: %v %d, not %v %d", p.what, got, e, want, f)
	}
}

func (p *pair) errs(e, f api.Errno) {
	p.t.Helper()
	check(p, 0, 0, e, f)
}

// step does one thing to both.
func (p *pair) step() {
	o, v, i := p.anOop(), p.anOop(), p.draw(7)-1
	kind := p.draw(30)
	p.what = fmt.Sprintf("seed %d: kind %d, oop %d, oop %d, index %d", p.seed, kind, o, v, i)
	switch kind {
	case 0, 1, 2, 3:
		sp, class, f, n := p.aSpace(), p.draw(4096), api.Format(p.draw(8)), p.draw(14)-1
		if p.draw(8) == 0 {
			class = p.aClass()
		}
		a, e := p.h.Alloc(sp, class, f, n)
		b, g := p.m.alloc(sp, class, f, n)
		check(p, a, b, e, g)
	case 4, 5:
		sp, class, literals, bytes := p.aSpace(), p.draw(4096), p.draw(5)-1, p.draw(19)-1
		a, e := p.h.AllocMethod(sp, class, literals, bytes)
		b, g := p.m.create(sp, class, api.FormatMethod, literals, bytes)
		check(p, a, b, e, g)
	case 6, 7, 8, 9:
		p.errs(p.h.SetSlot(o, i, v), p.m.setSlot(o, i, v))
	case 10:
		p.errs(p.h.SetByte(o, i, byte(p.seed>>40)), p.m.setByte(o, i, byte(p.seed>>40)))
	case 11:
		p.errs(p.h.SetWord(o, i, p.seed), p.m.setWord(o, i, p.seed))
	case 12:
		class := p.aClass()
		p.errs(p.h.SetClass(o, class), p.m.setClass(o, class))
	case 13:
		f := api.Format(p.draw(8))
		p.errs(p.h.SetFormat(o, f), p.m.setFormat(o, f))
	case 14:
		a, e := p.h.Hash(o)
		b, g := p.m.hash(o)
		check(p, a, b, e, g)
	case 15, 16, 17, 18, 19:
		p.stepRoots(kind, v)
	default:
		p.stepCollectors(kind, o, v)
	}
}

func (p *pair) stepRoots(kind int, v api.Oop) {
	switch kind {
	case 15:
		i := []int{-1, 0, 0, 0, 1, 63, 64}[p.draw(7)]
		p.errs(p.h.SetSpecial(i, v), p.m.setRoot(p.m.specials, i, v))
	case 16:
		i := []int{-1, 0, 17, 4095, 4096}[p.draw(5)]
		p.errs(p.h.SetClassAt(i, v), p.m.setRoot(p.m.classes, i, v))
	case 17:
		i := p.draw(len(p.m.stack)+2) - 1
		p.errs(p.h.SetRoot(i, v), p.m.setRoot(p.m.stack, i, v))
	case 18:
		a, e := p.h.Push(v)
		b, g := p.m.push(v)
		check(p, a, b, e, g)
		if p.draw(2) == 0 {
			a, e := p.h.Pop()
			b, g := p.m.pop()
			check(p, a, b, e, g)
		}
	case 19:
		p.errs(p.h.Enqueue(v), p.m.enqueue(v))
		if p.draw(2) == 0 {
			check(p, p.h.Dequeue(), p.m.dequeue(), 0, 0)
		}
	}
}

func (p *pair) stepCollectors(kind int, o, v api.Oop) {
	switch kind {
	case 20:
		p.errs(p.h.Note(o), p.m.noteByCall(o))
	case 21, 22:
		sp, age := p.aSpace(), p.draw(18)-1
		a, e := p.h.Copy(o, sp, age)
		b, g := p.m.copy(o, sp, age)
		check(p, a, b, e, g)
	case 23:
		p.errs(p.h.Forward(o, v), p.m.forward(o, v))
	case 24:
		p.errs(p.h.Free(o), p.m.free(o))
	case 25:
		was, e := p.h.Mark(o, p.seed>>50%2 == 0)
		before, g := p.m.mark(o, p.seed>>50%2 == 0)
		check(p, was, before, e, g)
	case 26:
		if p.draw(4) == 0 {
			o = 0
		}
		p.replace(o)
	case 27:
		x, at, literals := p.aHeader(), p.draw(p.m.z.Pins+4)-2, 0
		if x.Format == api.FormatMethod || p.draw(10) == 0 {
			literals = p.draw(x.Slots+3) - 1
		}
		if p.draw(3) == 0 {
			at = -1
		}
		a, e := p.h.Remake(at, x, literals)
		b, g := p.m.remake(at, x, literals)
		check(p, a, b, e, g)
	case 28:
		if p.draw(2) == 0 {
			check(p, p.h.Slide(), p.m.slide(), 0, 0)
		} else {
			n := []int{-1, 0, 9, 4194301, 4194302, 4194303}[p.draw(6)]
			p.errs(p.h.SetGiven(n), p.m.setGiven(n))
		}
	case 29:
		if p.draw(3) == 0 {
			p.h.Flip()
			p.m.flip()
		}
	}
}

// replace follows what is forwarded, and lays other words for some of the rest.
func (p *pair) replace(o api.Oop) {
	replacer := func(calls *[]api.Oop, forwarded func(api.Oop) (api.Oop, bool)) func(api.Oop) api.Oop {
		return func(v api.Oop) api.Oop {
			*calls = append(*calls, v)
			if to, is := forwarded(v); is {
				return to
			}
			if (uint64(v)/8+p.seed)%8 == 0 {
				return []api.Oop{0, 9, 3, 24, v + 8, 10}[v/8%6]
			}
			return v
		}
	}
	var a, b []api.Oop
	e := p.h.Replace(o, replacer(&a, p.h.Forwarded))
	g := p.m.replace(o, replacer(&b, func(v api.Oop) (api.Oop, bool) { to, is := p.m.forwards[v]; return to, is }))
	p.errs(e, g)
	sameList(p.t, p.what, a, b)
}

// Whatever is done in whatever order: the heap shows what its model shows.
func TestRandomSteps(t *testing.T) {
	for seed, z := range []api.Sizes{small(), {Eden: 64, Survivor: 16, Bound: 64}, {Eden: 70, Survivor: 33, Bound: 101, Pins: 64, Tenure: 15}, {Eden: 65, Survivor: 65, Bound: 64, Pins: 29}, {Eden: 64, Survivor: 17, Bound: 300, Pins: 130}} {
		p := &pair{t: t, h: sized(t, z), m: modelOf(z), seed: uint64(seed)}
		for range 2000 {
			p.step()
			samePicture(t, p.what, pictureOf(t, p.h, z), p.m.picture())
			if t.Failed() {
				t.FailNow()
			}
		}
		if len(p.m.things) < 5 {
			t.Error("hardly anything was tried:", len(p.m.things))
		}
	}
}

// What holds: as long as nothing is copied, replaced or emptied, every old object that refers to a young one is noted. (And only what refers to a young one, or did.)
func TestWhatRefersToYoungIsNoted(t *testing.T) {
	z := api.Sizes{Eden: 512, Survivor: 128, Bound: 2048, Pins: 512}
	p := &pair{t: t, h: sized(t, z), m: modelOf(z), seed: 77}
	young := inPast(t, p.h, 2)
	p.m.create(api.Future, 5, api.FormatPointers, 0, 2)
	p.m.flip()
	stored := 0
	for range 3000 {
		if kind := p.draw(12); kind < 3 {
			sp := []api.Space{api.Eden, api.Future, api.Old, api.Old, api.Pins}[p.draw(5)]
			a, e := p.h.AllocMethod(sp, 1, kind, 3)
			b, g := p.m.create(sp, 1, api.FormatMethod, kind, 3)
			check(p, a, b, e, g)
		} else if kind < 10 {
			o, v, i := p.anObject(), p.anObject(), p.draw(3)
			if p.h.SetSlot(o, i, v) == p.m.setSlot(o, i, v) && p.m.isYoung(v) {
				stored++
			}
		} else if kind == 10 {
			o := p.anObject()
			p.errs(p.h.Free(o), p.m.free(o))
		} else {
			v := []api.Oop{young, 9}[p.draw(2)]
			p.errs(p.h.SetSpecial(0, v), p.m.setRoot(p.m.specials, 0, v))
			check(p, p.h.Slide(), p.m.slide(), 0, 0)
		}
		for _, sp := range []api.Space{api.Old, api.Pins} {
			for o := range p.h.Walk(sp) {
				refers := slices.ContainsFunc(oopsOf(t, p.h, o), func(v api.Oop) bool {
					sp := p.h.Space(v)
					return sp == api.Eden || sp == api.Past || sp == api.Future
				})
				if refers && (!head(t, p.h, o).Noted || !slices.Contains(noted(p.h), o)) {
					t.Fatal("not noted:", o)
				}
			}
		}
		sameList(t, "noted", noted(p.h), p.m.noted)
	}
	if stored < 100 || len(noted(p.h)) < 10 {
		t.Error("hardly anything was tried:", stored, noted(p.h))
	}
}
