package memory_test

import (
	"math"
	"slices"
	"testing"

	"palaver/api"
)

// renamed is a picture in which objects have other names, wherever they are named; what is noted is left out, and so are rooms.
func (p picture) renamed(names map[api.Oop]api.Oop) picture {
	name := func(v api.Oop) api.Oop {
		if to, is := names[v]; is {
			return to
		}
		return v
	}
	q := p
	q.Objects, q.Roots = map[api.Oop]seen{}, nil
	for o, s := range p.Objects {
		oops := slices.Clone(s.Oops)
		for i, v := range oops {
			oops[i] = name(v)
		}
		s.Oops = oops
		q.Objects[o] = s
	}
	for _, v := range p.Roots {
		q.Roots = append(q.Roots, name(v))
	}
	return q
}

// bare is a picture without what is noted, and without rooms.
func (p picture) bare() picture {
	q := p.renamed(nil)
	q.Noted, q.Rooms, q.Useds = nil, [6]int{}, [6]int{}
	for o, s := range q.Objects {
		s.Head.Noted = false
		q.Objects[o] = s
	}
	return q
}

// pins asks that Pin moves an object, and renames it everywhere, and does nothing else.
func (r *trial) pins(o api.Oop) api.Oop {
	r.Helper()
	before, noted := pictureOf(r), slices.DeleteFunc(r.noted(), func(v api.Oop) bool { return v == o })
	p := r.made(r.m.Pin(o))
	want := before.renamed(map[api.Oop]api.Oop{o: p}).bare()
	s := want.Objects[o]
	s.Space = api.Pins
	delete(want.Objects, o)
	want.Objects[p] = s
	samePicture(r.T, "pinned", pictureOf(r).bare(), want)
	same(r.T, "pinned", r.m.Pinned(p), true)
	same(r.T, "pinned as it was called", r.m.Pinned(o), false)
	// What was noted stays so, in its order.
	sameList(r.T, "noted", r.noted()[:len(noted)], noted)
	return p
}

// everywhere lets objects of every format in every space, also such as nobody names, and roots of every kind name an object.
func (r *trial) everywhere(o api.Oop) {
	r.Helper()
	at := r.push(o)
	for _, names := range []int{0, 2, 1} { // by what is old, by what is young, and by what is pinned
		for _, f := range []api.Format{api.FormatPointers, api.FormatWeak, api.FormatEphemeron} {
			v := r.of(f, r.root(at), 9, 0)
			r.succeeds(r.m.SetSlot(v, 2, r.root(at)))
			r.push(v)
		}
		r.push(r.method("code", 9, r.root(at)))
		last := r.m.Depth()
		if names == 0 {
			r.scavenge()
			r.scavenge()
		}
		if names == 1 {
			for i := last - 4; i < last; i++ {
				r.made(r.m.Pin(r.root(i)))
			}
		}
		r.m.Pop() // so one of them is named by nobody
	}
	o = r.root(at)
	r.succeeds(r.m.SetSpecial(0, o))
	r.succeeds(r.m.SetSpecial(63, o))
	r.succeeds(r.m.SetClassAt(17, o))
	r.succeeds(r.m.Heap().Enqueue(o))
	r.push(o, o)
}

// Young objects, and old ones, named from wherever there is, also by themselves.
func TestPin(t *testing.T) {
	for _, from := range []api.Space{api.Eden, api.Past, api.Old} {
		r := begin(t, api.Sizes{Eden: 256, Survivor: 256, Bound: 1024, Pins: 128, Tenure: 2})
		r.push(r.of(api.FormatPointers, 9, r.words(3), 0))
		o := r.root(0)
		r.succeeds(r.m.SetSlot(o, 2, o))
		r.hash(o)
		r.everywhere(o)
		for from != api.Eden && r.space(r.root(0)) < from {
			r.scavenge()
		}
		if from == api.Eden {
			// The same, but for a copy that is in eden still.
			e := r.made(r.m.Clone(r.root(0)))
			r.succeeds(r.m.Become([]api.Oop{e}, []api.Oop{r.root(0)}))
		}
		o = r.root(0)
		same(t, "space", r.space(o), from)
		p := r.pins(o)
		same(t, "root", r.root(0), p)
		v, _ := r.m.ClassAt(17)
		same(t, "class", v, p)
		v, _ = r.m.Special(0)
		same(t, "special", v, p)
		sameList(t, "queue", r.queue(), []api.Oop{p})
		named := 0
		for _, s := range pictureOf(r).Objects {
			for _, v := range s.Oops {
				if v == p {
					named++
				}
			}
		}
		if named < 15 {
			t.Errorf("hardly anything names it: %d", named)
		}
		// Once more: it stays where it is.
		before := pictureOf(r)
		same(t, "again", r.made(r.m.Pin(p)), p)
		samePicture(t, "again", pictureOf(r), before)
		r.collect()
		r.scavenge()
		same(t, "root", r.root(0), p)
	}
}

// Objects of every format: with all that is in them, their hashes and ages.
func TestPinOfEachFormat(t *testing.T) {
	for scavenges := range 4 {
		r := begin(t, api.Sizes{Eden: 128, Survivor: 128, Bound: 4096, Pins: 1024, Tenure: 2})
		r.samples()
		for range scavenges {
			r.scavenge()
		}
		for i := range r.m.Depth() {
			if i%2 == 0 {
				r.hash(r.root(i))
			}
			hash, given, count := r.head(r.root(i)).Hash, r.m.Heap().Given(), r.m.Count()
			p := r.pins(r.root(i))
			same(t, "hash", r.head(p).Hash, hash)
			same(t, "given", r.m.Heap().Given(), given)
			same(t, "count", r.m.Count(), count)
		}
		r.collect()
		same(t, "used", r.m.Heap().Used(api.Pins), r.m.Count())
	}
}

// Exactly the words, and one too few; and one that is pinned already needs none.
func TestRoomOfPins(t *testing.T) {
	for size, want := range map[int]api.Errno{2: api.OK, 7: api.OK, 8: api.OK, 9: api.ErrMemoryPins, 30: api.ErrMemoryPins, 40: api.ErrMemoryPins} {
		r := begin(t, small())
		r.keep(size)
		before := pictureOf(r)
		p, e := r.m.Pin(r.root(0))
		r.fails(e, want)
		if want != api.OK {
			same(t, "beside an error", p, 0)
			samePicture(t, "after what failed", pictureOf(r), before)
			continue
		}
		same(t, "place", p, pinsAt)
		same(t, "room", r.m.Heap().Room(api.Pins), 8-size)
	}
	r := begin(t, api.Sizes{Eden: 64, Survivor: 16, Bound: 64})
	r.keep(2)
	r.refuses(api.ErrMemoryPins)(r.m.Pin(r.root(0)))

	// Gaps: the first one that is long enough is filled.
	r = begin(t, api.Sizes{Eden: 64, Survivor: 16, Bound: 64, Pins: 16, Tenure: 1})
	r.keep(3, 2, 5, 2, 4)
	for i, want := range []api.Oop{0, 3, 5, 10, 12} {
		same(t, "place", r.pins(r.root(i)), pinsAt+8*want)
	}
	r.keep(2)
	r.refuses(api.ErrMemoryPins)(r.m.Pin(r.root(5)))
	same(t, "already there", r.made(r.m.Pin(r.root(4))), pinsAt+8*12)
	r.succeeds(r.m.SetRoot(0, 0))
	r.succeeds(r.m.SetRoot(2, 0))
	r.refuses(api.ErrMemoryPins)(r.m.Pin(r.root(5))) // nobody names them any more, but they are there
	r.scavenge()
	r.refuses(api.ErrMemoryPins)(r.m.Pin(r.root(5)))
	r.collect()
	r.keep(6, 5)
	r.refuses(api.ErrMemoryPins)(r.m.Pin(r.root(6)))
	same(t, "the second gap", r.pins(r.root(7)), pinsAt+8*5)
	same(t, "the first gap", r.pins(r.root(5)), pinsAt)
	for i, want := range map[int]api.Oop{1: 3, 3: 10, 4: 12} {
		same(t, "place", r.root(i), pinsAt+8*want)
	}
}

// A pinned object stays where it is, whatever else is done; what it names follows.
func TestPinnedObjectsStay(t *testing.T) {
	r := begin(t, api.Sizes{Eden: 64, Survivor: 16, Bound: 100, Pins: 20, Tenure: 1})
	r.push(r.made(r.m.AllocText(5, "pinned")), r.of(api.FormatPointers, 9))
	r.succeeds(r.m.SetSlot(r.root(1), 0, r.made(r.m.AllocText(5, "named"))))
	p, q := r.pins(r.root(0)), r.pins(r.root(1))
	for i := range 60 {
		switch i % 12 {
		case 10:
			r.scavenge()
		case 11:
			r.collect()
		case 5:
			r.words(33)
		default:
			r.words(3 + i%5)
		}
		same(t, "root", r.root(0), p)
		same(t, "root", r.root(1), q)
		same(t, "text", r.text(p), "pinned")
		same(t, "text", r.text(r.slot(q, 0)), "named")
	}
	same(t, "space", r.space(r.slot(q, 0)), api.Old)
}

// What names a young object has to be noted in pins; what was noted in old is so there.
func TestNotesOfPinnedObjects(t *testing.T) {
	r := begin(t, wide())
	young := func() api.Oop { return r.words(3) }
	// A young one that names a young one.
	a := r.of(api.FormatPointers, young())
	p := r.pins(a)
	sameList(t, "noted", r.noted(), []api.Oop{p})
	// One that names nothing young, or only itself.
	q := r.pins(r.of(api.FormatPointers, 9, p, 0))
	o := r.of(api.FormatWeak, 0)
	r.succeeds(r.m.SetSlot(o, 0, o))
	o = r.pins(o)
	same(t, "names itself", r.slot(o, 0), o)
	sameList(t, "noted", r.noted(), []api.Oop{p})
	// What it names is found by a scavenge.
	r.push(p)
	r.scavenge()
	same(t, "kept", 2+r.head(r.slot(p, 0)).Slots, 3)
	same(t, "space", r.space(r.slot(p, 0)), api.Past)

	r = begin(t, wide())
	a, b := r.old(api.FormatPointers, 9), r.old(api.FormatPointers, 9)
	c := r.of(api.FormatEphemeron, 9, 9)
	for _, o := range []api.Oop{a, b} {
		r.succeeds(r.m.SetSlot(o, 0, c))
	}
	sameList(t, "noted", r.noted(), []api.Oop{a, b})
	p = r.pins(a)
	sameList(t, "noted", r.noted(), []api.Oop{b, p})
	// It is old then: those that were noted for its sake stay so till a scavenge.
	q = r.pins(c)
	sameList(t, "noted", r.noted(), []api.Oop{b, p})
	same(t, "named", r.slot(b, 0) == q && r.slot(p, 0) == q, true)
	r.scavenge()
	sameList(t, "noted", r.noted(), nil)

	// It is the same object: noted it stays, also where it names nothing young any more.
	r = begin(t, wide())
	a = r.old(api.FormatPointers, 9)
	r.succeeds(r.m.SetSlot(a, 0, young()))
	r.succeeds(r.m.SetSlot(a, 0, 9))
	p = r.pins(a)
	sameList(t, "noted", r.noted(), []api.Oop{p})
	r.scavenge()
	sameList(t, "noted", r.noted(), nil)
}

func TestPinned(t *testing.T) {
	r := begin(t, wide())
	eden := r.words(3)
	old := r.words(200)
	pinned := r.pins(r.words(4))
	for o, want := range map[api.Oop]bool{eden: false, old: false, pinned: true, pinned + 8: false, 0: false, 1: false, 9: false, 2: false, 778: false, math.MaxUint64: false} {
		if r.m.Pinned(o) != want {
			t.Errorf("Pinned(%d): %v", o, !want)
		}
	}
	r.push(eden)
	r.scavenge()
	same(t, "past", r.m.Pinned(r.root(0)), false)
	r.collect()
	same(t, "gone", r.m.Pinned(pinned), false)
	for _, bad := range badWords {
		same(t, "bad", r.m.Pinned(bad), false)
	}
}

// What was pinned out of old leaves a gap there, which is closed by a full collection: so there is always room.
func TestPinAndDropForever(t *testing.T) {
	for _, z := range []api.Sizes{{Eden: 64, Survivor: 16, Bound: 64, Pins: 65536}, {Eden: 64, Survivor: 16, Bound: 64, Pins: 40, Tenure: 15}} {
		r := begin(t, z)
		for i := range 200 {
			r.push(r.words(2 + i*7%33))
			if i%3 == 0 {
				r.scavenge()
			}
			_, e := r.m.Pin(r.root(0))
			if e != api.OK {
				r.fails(e, api.ErrMemoryPins)
			}
			r.m.Pop()
		}
	}
}
