package heap_test

import (
	"slices"
	"testing"

	"palaver/api"
)

// Which words are objects, for each word of the memory.
func TestWhichWordsAreObjects(t *testing.T) {
	h := made(t)
	want := map[api.Oop]api.Space{}
	for sp, at := range map[api.Space]api.Oop{api.Eden: edenAt, api.Future: secondAt, api.Old: oldAt, api.Pins: pinsAt} {
		for _, n := range []int{0, 3, 1, 0, 2} {
			want[alloc(t, h, sp, api.FormatPointers, n)] = sp
		}
		same(t, "the first one", want[at], sp)
	}
	check := func(what string) {
		t.Helper()
		for o := range api.Oop(endAt + 100) {
			if h.Is(o) != (want[o] != 0) || h.Space(o) != want[o] {
				t.Errorf("%s: %d: %v, space %d, not %d", what, o, h.Is(o), h.Space(o), want[o])
			}
		}
	}
	check("allocated")
	// The second object of each space is freed, the fourth one is forwarded, to one in the next space.
	for _, sp := range []api.Space{api.Eden, api.Future, api.Old, api.Pins} {
		l := walked(h, sp)
		succeeds(t, h.Free(l[1]))
		succeeds(t, h.Forward(l[3], edenAt))
		delete(want, l[1])
		delete(want, l[3])
	}
	check("freed and forwarded")
	h.Flip()
	for o, sp := range want {
		switch sp {
		case api.Eden:
			delete(want, o)
		case api.Future:
			want[o] = api.Past
		}
	}
	check("flipped")
	want[alloc(t, h, api.Future, api.FormatPointers, 1)] = api.Future
	same(t, "the other half", want[firstAt], api.Future)
	check("both halves")
	h.Flip()
	for o, sp := range want {
		switch sp {
		case api.Past:
			delete(want, o)
		case api.Future:
			want[o] = api.Past
		}
	}
	check("flipped again")
}

// Objects without slots lie side by side, at all places of the words in which their bits are.
func TestObjectsSideBySide(t *testing.T) {
	z := api.Sizes{Eden: 1000, Survivor: 777, Bound: 2000, Pins: 513}
	h := sized(t, z)
	for sp, size := range map[api.Space]int{api.Eden: 1000, api.Future: 777, api.Old: 2000 + 1000 + 2*777, api.Pins: 513} {
		var l []api.Oop
		for range size / 2 {
			l = append(l, alloc(t, h, sp, api.FormatPointers, 0))
		}
		same(t, "full", second(h.Alloc(sp, 1, api.FormatPointers, 0)), api.ErrHeapFull)
		same(t, "room", h.Room(sp), size%2)
		same(t, "used", h.Used(sp), size/2*2)
		sameList(t, "walk", walked(h, sp), l)
		for i, o := range l {
			same(t, "address", o, l[0]+api.Oop(16*i))
			same(t, "is", h.Is(o), true)
			same(t, "is", h.Is(o+8), false)
			same(t, "space", h.Space(o), sp)
		}
		// Each third one stays.
		var kept []api.Oop
		for i, o := range l {
			if i%3 == 0 {
				kept = append(kept, o)
			} else {
				succeeds(t, h.Free(o))
			}
		}
		sameList(t, "walk", walked(h, sp), kept)
		same(t, "used", h.Used(sp), 2*len(kept))
	}
}

// Memories that end at each place of the words in which the bits are: what lies behind the last word is no object.
func TestEndOfTheMemory(t *testing.T) {
	for pins := range 140 {
		z := api.Sizes{Eden: 64, Survivor: 16, Bound: 64, Pins: pins}
		h := sized(t, z)
		end := api.Oop(pinsAt + 8*pins)
		if pins >= 2 {
			same(t, "the last object", second(h.Remake(pins-2, api.Header{Format: api.FormatPointers}, 0)), api.OK)
			sameList(t, "walk", walked(h, api.Pins), []api.Oop{end - 16})
			same(t, "used", h.Used(api.Pins), 2)
		}
		for o := end - 8; o < end+8*200; o += 8 {
			same(t, "is", h.Is(o), false)
			same(t, "space", h.Space(o), 0)
			sameForwarded(t, h, o, 0)
		}
	}
}

func TestWhatIsNoSpace(t *testing.T) {
	h := made(t)
	for _, sp := range allSpaces {
		if sp != api.Past {
			alloc(t, h, sp, api.FormatPointers, 1)
		}
	}
	for _, sp := range []api.Space{0, 6, 7, 64, 255} {
		same(t, "room", h.Room(sp), 0)
		same(t, "used", h.Used(sp), 0)
		for o := range h.Walk(sp) {
			t.Error("space", sp, "has", o)
		}
	}
}

func TestRoomAndUsed(t *testing.T) {
	h := made(t)
	for _, sp := range []api.Space{api.Eden, api.Future, api.Old} {
		room := h.Room(sp)
		a := alloc(t, h, sp, api.FormatPointers, 3)
		same(t, "room", h.Room(sp), room-5)
		same(t, "used", h.Used(sp), 5)
		b := alloc(t, h, sp, api.FormatBytes, 9)
		same(t, "room", h.Room(sp), room-9)
		same(t, "used", h.Used(sp), 9)
		succeeds(t, h.Free(a))
		same(t, "room", h.Room(sp), room-9)
		same(t, "used", h.Used(sp), 4)
		allocMethod(t, h, sp, 1, 1)
		same(t, "room", h.Room(sp), room-14)
		same(t, "used", h.Used(sp), 9)
		succeeds(t, h.Free(b))
		same(t, "used", h.Used(sp), 5)
	}
	for sp, n := range map[api.Space][2]int{api.Eden: {50, 5}, api.Past: {16, 0}, api.Future: {2, 5}, api.Old: {146, 5}, api.Pins: {16, 0}} {
		same(t, "room", h.Room(sp), n[0])
		same(t, "used", h.Used(sp), n[1])
	}
	h.Flip()
	for sp, n := range map[api.Space][2]int{api.Eden: {64, 0}, api.Past: {2, 5}, api.Future: {16, 0}, api.Old: {146, 5}, api.Pins: {16, 0}} {
		same(t, "room", h.Room(sp), n[0])
		same(t, "used", h.Used(sp), n[1])
	}
	h.Slide()
	same(t, "room", h.Room(api.Old), 155)
	same(t, "used", h.Used(api.Old), 5)
}

// pinned fills pins with objects of so many words, and frees those that are named.
func pinned(t *testing.T, free []int, sizes ...int) (*pinsOf, []api.Oop) {
	t.Helper()
	p := &pinsOf{t: t}
	p.pair = &pair{t: t, h: made(t), m: modelOf(small())}
	var l []api.Oop
	for _, n := range sizes {
		l = append(l, p.alloc(n))
	}
	for _, i := range free {
		p.free(l[i])
	}
	return p, l
}

// pinsOf is a heap whose room in pins is held against that of a model.
type pinsOf struct {
	*pair
	t *testing.T
}

func (p *pinsOf) alloc(size int) api.Oop {
	p.t.Helper()
	a, e := p.h.Alloc(api.Pins, 1, api.FormatWords, size-2)
	b, g := p.m.alloc(api.Pins, 1, api.FormatWords, size-2)
	check(p.pair, a, b, e, g)
	same(p.t, "room", p.h.Room(api.Pins), p.m.room(api.Pins))
	return a
}

func (p *pinsOf) free(o api.Oop) {
	p.t.Helper()
	p.errs(p.h.Free(o), p.m.free(o))
	same(p.t, "room", p.h.Room(api.Pins), p.m.room(api.Pins))
	same(p.t, "used", p.h.Used(api.Pins), p.m.used(api.Pins))
}

// The first gap that is long enough, not the best one, and not the last one.
func TestFirstGapThatIsLongEnough(t *testing.T) {
	// Gaps of 3 and 5 words, with objects of 2 words behind each, and one of 4 at the end.
	sizes, free := []int{3, 2, 5, 2, 4}, []int{0, 2}
	for _, c := range []struct {
		size  int
		place int // -1: nowhere
	}{{2, 0}, {3, 0}, {4, 5}, {5, 5}, {6, -1}, {16, -1}} {
		p, l := pinned(t, free, sizes...)
		same(t, "the first pin", l[0], pinsAt)
		same(t, "room", p.h.Room(api.Pins), 5)
		o := p.alloc(c.size)
		if c.place < 0 {
			same(t, "nowhere", o, 0)
			continue
		}
		same(t, "address", o, api.Oop(pinsAt+8*c.place))
		same(t, "place", p.h.Place(o), c.place)
	}
	// What is left of a gap is a gap.
	p, _ := pinned(t, free, sizes...)
	same(t, "address", p.alloc(3), pinsAt)
	same(t, "address", p.alloc(2), pinsAt+5*8)
	same(t, "room", p.h.Room(api.Pins), 3)
	same(t, "address", p.alloc(3), pinsAt+7*8)
	same(t, "room", p.h.Room(api.Pins), 0)
	same(t, "nowhere", p.alloc(2), 0)
	// A gap of one word stays where it is, and fits nothing.
	p, _ = pinned(t, free, sizes...)
	same(t, "address", p.alloc(2), pinsAt)
	same(t, "address", p.alloc(2), pinsAt+5*8)
	same(t, "address", p.alloc(2), pinsAt+7*8)
	same(t, "room", p.h.Room(api.Pins), 1)
	same(t, "nowhere", p.alloc(2), 0)
}

// Gaps grow together, with what is ahead of them, behind them, both, or neither.
func TestGapsGrowTogether(t *testing.T) {
	sizes := []int{3, 2, 4, 2, 3, 2}
	for _, c := range []struct {
		free []int
		room int
	}{
		{[]int{0}, 3}, {[]int{5}, 2}, {[]int{0, 1}, 5}, {[]int{1, 0}, 5}, {[]int{2, 4}, 4},
		{[]int{0, 2}, 4}, {[]int{0, 2, 1}, 9}, {[]int{2, 0, 1}, 9}, {[]int{1, 2, 0}, 9}, {[]int{3, 5, 4}, 7}, {[]int{5, 3, 4}, 7},
		{[]int{0, 1, 2, 3, 4, 5}, 16}, {[]int{5, 4, 3, 2, 1, 0}, 16}, {[]int{1, 3, 5, 0, 4, 2}, 16}, {[]int{0, 2, 4, 5, 3, 1}, 16}, {[]int{1, 4, 2, 3}, 11},
	} {
		p, l := pinned(t, c.free, sizes...)
		same(t, "room", p.h.Room(api.Pins), c.room)
		same(t, "one more", p.alloc(c.room+1), 0)
		if o := p.alloc(c.room); o == 0 || len(c.free) == 6 && o != l[0] {
			t.Error(c, o)
		}
	}
	// A gap of one word, too.
	p, l := pinned(t, []int{1}, 3, 3, 10)
	same(t, "address", p.alloc(2), l[1])
	p.free(l[2])
	same(t, "room", p.h.Room(api.Pins), 11)
	same(t, "address", p.alloc(11), l[1]+16)
	// And what Forward leaves.
	p, l = pinned(t, nil, 4, 4, 4, 4)
	p.errs(p.h.Forward(l[1], l[0]), p.m.forward(l[1], l[0]))
	same(t, "room", p.h.Room(api.Pins), 4)
	p.errs(p.h.Forward(l[2], l[3]), p.m.forward(l[2], l[3]))
	same(t, "room", p.h.Room(api.Pins), 8)
	same(t, "used", p.h.Used(api.Pins), 8)
	same(t, "address", p.alloc(8), l[1])
}

// Many gaps, in random order.
func TestManyGaps(t *testing.T) {
	z := api.Sizes{Eden: 64, Survivor: 16, Bound: 64, Pins: 300}
	p := &pinsOf{t: t}
	p.pair = &pair{t: t, h: sized(t, z), m: modelOf(z), seed: 5}
	most := 0
	for range 4000 {
		if p.draw(5) < 3 {
			p.alloc(2 + p.draw(9))
		} else if o := p.anObject(); o != 0 {
			p.free(o)
		}
		most = max(most, len(p.m.things))
	}
	sameList(t, "walk", walked(p.h, api.Pins), p.m.inPart(4))
	if most < 30 {
		t.Error(most)
	}
}

func TestWalk(t *testing.T) {
	h := made(t)
	var walks [6]func(func(api.Oop) bool)
	for _, sp := range allSpaces {
		walks[sp] = h.Walk(sp)
		sameList(t, "nothing", walked(h, sp), nil)
	}
	a, b, c := alloc(t, h, api.Future, api.FormatPointers, 1), alloc(t, h, api.Future, api.FormatWords, 0), alloc(t, h, api.Future, api.FormatBytes, 7)
	d := alloc(t, h, api.Eden, api.FormatPointers, 1)
	sameList(t, "future", slices.Collect(walks[api.Future]), []api.Oop{a, b, c})
	sameList(t, "future", slices.Collect(walks[api.Future]), []api.Oop{a, b, c})
	sameList(t, "past", slices.Collect(walks[api.Past]), nil)
	sameList(t, "eden", slices.Collect(walks[api.Eden]), []api.Oop{d})
	h.Flip()
	// The spaces are those of now.
	sameList(t, "past", slices.Collect(walks[api.Past]), []api.Oop{a, b, c})
	sameList(t, "future", slices.Collect(walks[api.Future]), nil)
	sameList(t, "eden", slices.Collect(walks[api.Eden]), nil)
	succeeds(t, h.Free(b))
	sameList(t, "past", slices.Collect(walks[api.Past]), []api.Oop{a, c})
	// In pins the addresses rise, in whatever order the objects were made.
	l := []api.Oop{alloc(t, h, api.Pins, api.FormatPointers, 0), alloc(t, h, api.Pins, api.FormatPointers, 0), alloc(t, h, api.Pins, api.FormatPointers, 0)}
	succeeds(t, h.Free(l[0]))
	last := alloc(t, h, api.Pins, api.FormatPointers, 3)
	again := alloc(t, h, api.Pins, api.FormatPointers, 0)
	sameList(t, "pins", slices.Collect(walks[api.Pins]), []api.Oop{again, l[1], l[2], last})
}

func TestWalkLeftEarlyAndNested(t *testing.T) {
	for _, sp := range []api.Space{api.Eden, api.Future, api.Old, api.Pins} {
		h := made(t)
		var l []api.Oop
		for range 4 {
			l = append(l, alloc(t, h, sp, api.FormatPointers, 2))
		}
		for n := 1; n <= 4; n++ {
			var got []api.Oop
			for o := range h.Walk(sp) {
				got = append(got, o)
				if len(got) == n {
					break
				}
			}
			sameList(t, "left early", got, l[:n])
		}
		var got, want []api.Oop
		for o := range h.Walk(sp) {
			for v := range h.Walk(sp) {
				got = append(got, o, v)
				if v == o {
					break
				}
			}
		}
		for i, o := range l {
			for _, v := range l[:i+1] {
				want = append(want, o, v)
			}
		}
		sameList(t, "nested", got, want)
	}
}
