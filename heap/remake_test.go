package heap_test

import (
	"math"
	"testing"

	"palaver/api"
)

func TestGiven(t *testing.T) {
	h := made(t)
	same(t, "given", h.Given(), 0)
	for _, n := range []int{1, 4194301, 4194302, 0, 77} {
		succeeds(t, h.SetGiven(n))
		same(t, "given", h.Given(), n)
		for _, bad := range []int{-1, math.MinInt, 4194303, 4194304, 1 << 32, math.MaxInt} {
			same(t, "error", h.SetGiven(bad), api.ErrArg)
		}
		same(t, "given", h.Given(), n)
	}
	// The last hash, and the first one again.
	succeeds(t, h.SetGiven(4194302))
	for i, want := range []int{4194303, 1, 2} {
		n, e := h.Hash(alloc(t, h, api.Eden, api.FormatPointers, 0))
		same(t, "hash", n, want)
		succeeds(t, e)
		same(t, "given", h.Given(), i)
	}
}

func TestPlace(t *testing.T) {
	h := made(t)
	past := inPast(t, h, 1)
	for i, n := range []int{0, 3, 1} {
		same(t, "place", h.Place(alloc(t, h, api.Pins, api.FormatPointers, n)), []int{0, 2, 7}[i])
	}
	for _, o := range []api.Oop{past, alloc(t, h, api.Eden, api.FormatPointers, 0), alloc(t, h, api.Future, api.FormatPointers, 0), alloc(t, h, api.Old, api.FormatPointers, 0)} {
		same(t, "place", h.Place(o), -1)
	}
	for _, o := range []api.Oop{0, 1, 2, 3, 8, pinsAt + 8, pinsAt + 80, endAt, 1 << 31, math.MaxUint64} {
		same(t, "place", h.Place(o), -1)
	}
	o := walkedLast(h.Walk(api.Pins))
	succeeds(t, h.Free(o))
	same(t, "place", h.Place(o), -1)
}

func walkedLast(walk func(func(api.Oop) bool)) api.Oop {
	last := api.Oop(0)
	for o := range walk {
		last = o
	}
	return last
}

// Objects of all formats, in old and in pins: with their headers, and otherwise without anything.
func TestRemake(t *testing.T) {
	for _, at := range []int{-1, 0, 1, 7} {
		for _, c := range []struct {
			x        api.Header
			literals int
			oops     int
			bytes    int
		}{
			{api.Header{Class: 4095, Format: api.FormatPointers, Hash: 4194303, Age: 15, Slots: 3}, 0, 3, 0},
			{api.Header{Format: api.FormatPointers}, 0, 0, 0},
			{api.Header{Class: 1, Format: api.FormatWeak, Slots: 2, Age: 1}, 0, 2, 0},
			{api.Header{Class: 1, Format: api.FormatEphemeron, Slots: 1, Hash: 1}, 0, 1, 0},
			{api.Header{Class: 1, Format: api.FormatWords, Slots: 4}, 0, 0, 0},
			{api.Header{Class: 1, Format: api.FormatBytes, Slots: 2, Spare: 7}, 0, 0, 9},
			{api.Header{Class: 1, Format: api.FormatBytes, Slots: 2}, 0, 0, 16},
			{api.Header{Class: 1, Format: api.FormatBytes}, 0, 0, 0},
			{api.Header{Class: 1, Format: api.FormatMethod, Slots: 1}, 0, 1, 0},
			{api.Header{Class: 1, Format: api.FormatMethod, Slots: 4}, 3, 4, 0},
			{api.Header{Class: 1, Format: api.FormatMethod, Slots: 4, Spare: 7}, 2, 3, 1},
			{api.Header{Class: 1, Format: api.FormatMethod, Slots: 4, Spare: 3}, 0, 1, 21},
		} {
			h := made(t)
			// Nothing of what was there before is seen, and special 0 is not, either.
			succeeds(t, h.SetSpecial(0, 9))
			for _, sp := range []api.Space{api.Old, api.Pins} {
				o := alloc(t, h, sp, api.FormatWords, 14)
				for i := range 14 {
					succeeds(t, h.SetWord(o, i, math.MaxUint64))
				}
				succeeds(t, h.Free(o))
			}
			h.Slide()
			o, e := h.Remake(at, c.x, c.literals)
			succeeds(t, e)
			want := seen{Head: c.x}
			if c.oops > 0 {
				want.Oops = make([]api.Oop, c.oops)
			}
			if c.x.Format == api.FormatMethod {
				want.Oops[0] = api.Oop(8*c.literals + 1)
			}
			if c.bytes > 0 {
				want.Bytes = make([]byte, c.bytes)
			}
			if c.x.Format == api.FormatWords {
				want.Words = make([]uint64, c.x.Slots)
			}
			sameLook(t, "remade", look(t, h, o), want)
			same(t, "given", h.Given(), 0)
			same(t, "place", h.Place(o), at)
			if at == -1 {
				same(t, "address", o, oldAt)
				same(t, "room", h.Room(api.Old), 158-c.x.Slots)
				same(t, "next", alloc(t, h, api.Old, api.FormatPointers, 0), oldAt+api.Oop(8*(2+c.x.Slots)))
			} else {
				same(t, "address", o, api.Oop(pinsAt+8*at))
				same(t, "used", h.Used(api.Pins), 2+c.x.Slots)
			}
			sameNoted(t, "noted", h)
		}
	}
}

// What may not be: each by itself; and ahead of what has no room.
func TestRemakeOfWhatMayNotBe(t *testing.T) {
	h := made(t)
	alloc(t, h, api.Pins, api.FormatPointers, 0)
	good := api.Header{Class: 5, Format: api.FormatPointers, Slots: 1}
	method := api.Header{Class: 5, Format: api.FormatMethod, Slots: 3}
	change := func(x api.Header, set func(x *api.Header)) api.Header {
		set(&x)
		return x
	}
	for _, full := range []bool{false, true} {
		if full {
			alloc(t, h, api.Old, api.FormatWords, 158)
			alloc(t, h, api.Pins, api.FormatWords, 12)
		}
		before := pictureOf(t, h, small())
		for _, c := range []struct {
			at       int
			x        api.Header
			literals int
		}{
			{-2, good, 0}, {math.MinInt, good, 0}, {-3, method, 1}, {-2, api.Header{}, 9},
			{-1, api.Header{}, 0},
			{-1, change(good, func(x *api.Header) { x.Class = 4096 }), 0}, {-1, change(good, func(x *api.Header) { x.Class = -1 }), 0},
			{-1, change(good, func(x *api.Header) { x.Format = 0 }), 0}, {-1, change(good, func(x *api.Header) { x.Format = 7 }), 0},
			{-1, change(good, func(x *api.Header) { x.Hash = 4194304 }), 0}, {-1, change(good, func(x *api.Header) { x.Hash = -1 }), 0},
			{-1, change(good, func(x *api.Header) { x.Age = 16 }), 0}, {-1, change(good, func(x *api.Header) { x.Age = -1 }), 0},
			{-1, change(good, func(x *api.Header) { x.Slots = 65537 }), 0}, {-1, change(good, func(x *api.Header) { x.Slots = -1 }), 0}, {-1, change(good, func(x *api.Header) { x.Slots = -2 }), 0}, {-1, change(good, func(x *api.Header) { x.Slots = math.MaxInt }), 0},
			{-1, change(good, func(x *api.Header) { x.Spare = 1 }), 0}, {-1, change(good, func(x *api.Header) { x.Spare = -1 }), 0},
			{-1, change(good, func(x *api.Header) { x.Marked = true }), 0}, {-1, change(good, func(x *api.Header) { x.Noted = true }), 0},
			{-1, api.Header{Format: api.FormatEphemeron}, 0}, {-1, api.Header{Format: api.FormatBytes, Spare: 1}, 0}, {-1, api.Header{Format: api.FormatBytes, Slots: 1, Spare: 8}, 0}, {-1, api.Header{Format: api.FormatMethod}, 0},
			{-1, good, 1}, {-1, good, -1}, {-1, good, math.MaxInt},
			{-1, api.Header{Format: api.FormatWeak, Slots: 2}, 1}, {-1, api.Header{Format: api.FormatEphemeron, Slots: 2}, 1}, {-1, api.Header{Format: api.FormatWords, Slots: 2}, 1}, {-1, api.Header{Format: api.FormatBytes, Slots: 2}, 1},
			{-1, method, -1}, {-1, method, 3}, {-1, method, 4}, {-1, method, math.MaxInt}, {-1, method, math.MinInt},
			{-1, change(method, func(x *api.Header) { x.Spare = 1 }), 2}, {-1, change(method, func(x *api.Header) { x.Slots, x.Spare = 1, 1 }), 0},
			{-1, change(method, func(x *api.Header) { x.Marked = true }), 1}, {-1, change(method, func(x *api.Header) { x.Noted = true }), 1},
		} {
			for _, at := range []int{c.at, 0, 3, 1 << 40, math.MaxInt} {
				if c.at < -1 {
					at = c.at
				}
				if o, e := h.Remake(at, c.x, c.literals); o != 0 || e != api.ErrArg {
					t.Errorf("Remake(%d, %+v, %d): %d %d", at, c.x, c.literals, o, e)
				}
			}
		}
		samePicture(t, "after what failed", pictureOf(t, h, small()), before)
	}
}

func TestRemakeInOldRoom(t *testing.T) {
	for slots, want := range map[int]api.Errno{157: api.OK, 158: api.OK, 159: api.ErrHeapFull, 65536: api.ErrHeapFull} {
		h := made(t)
		before := pictureOf(t, h, small())
		o, e := h.Remake(-1, api.Header{Format: api.FormatWords, Slots: slots}, 0)
		same(t, "error", e, want)
		if want == api.OK {
			same(t, "address", o, oldAt)
			same(t, "room", h.Room(api.Old), 158-slots)
			continue
		}
		same(t, "object", o, 0)
		samePicture(t, "after what failed", pictureOf(t, h, small()), before)
	}
}

// At each place, with each count of words: only where all of them exist and are free. Gaps are at 0 to 2, 5 to 9 and 12 to 15.
func TestRemakeInGapsOfPins(t *testing.T) {
	free := map[int]bool{}
	for _, place := range []int{0, 1, 2, 5, 6, 7, 8, 9, 12, 13, 14, 15} {
		free[place] = true
	}
	done := 0
	for at := range 20 {
		for slots := range 16 {
			p, l := pinned(t, []int{0, 2}, 3, 2, 5, 2)
			before := pictureOf(t, p.h, small())
			want := api.OK
			for place := at; place < at+2+slots; place++ {
				if !free[place] {
					want = api.ErrHeapFull
				}
			}
			x := api.Header{Class: 9, Format: api.FormatWords, Slots: slots}
			o, e := p.h.Remake(at, x, 0)
			p.m.remake(at, x, 0)
			same(t, "error", e, want)
			samePicture(t, "remade", pictureOf(t, p.h, small()), p.m.picture())
			if want != api.OK {
				same(t, "object", o, 0)
				samePicture(t, "after what failed", pictureOf(t, p.h, small()), before)
				continue
			}
			done++
			same(t, "address", o, api.Oop(pinsAt+8*at))
			// What is left of the gap is free, and grows together with it again.
			if at == 6 && slots == 1 {
				same(t, "left", p.h.Room(api.Pins), 4)
				same(t, "again", second(p.h.Remake(5, x, 0)), api.ErrHeapFull)
				same(t, "again", second(p.h.Remake(8, x, 0)), api.ErrHeapFull)
				p.free(o)
				same(t, "free", p.h.Room(api.Pins), 5)
				same(t, "first", p.alloc(5), l[2])
			}
		}
	}
	same(t, "done", done, 3+10+6)
	h := made(t)
	for _, at := range []int{15, 16, 17, 1000, 1 << 31, 1 << 40, 1 << 60, math.MaxInt - 261, math.MaxInt - 260, math.MaxInt - 259, math.MaxInt - 258, math.MaxInt - 257, math.MaxInt - 1, math.MaxInt} {
		o, e := h.Remake(at, api.Header{Format: api.FormatPointers}, 0)
		same(t, "object", o, 0)
		same(t, "error", e, api.ErrHeapFull)
	}
	same(t, "the last place", second(h.Remake(14, api.Header{Format: api.FormatPointers}, 0)), api.OK)
	same(t, "the first place", second(h.Remake(0, api.Header{Format: api.FormatWords, Slots: 12}, 0)), api.OK)
	same(t, "full", h.Room(api.Pins), 0)
}

// A remade object is one like others.
func TestRemadeObjectsAreObjects(t *testing.T) {
	h := made(t)
	o, e := h.Remake(-1, api.Header{Class: 3, Format: api.FormatPointers, Slots: 2, Hash: 40, Age: 3}, 0)
	succeeds(t, e)
	m, e := h.Remake(2, api.Header{Class: 4, Format: api.FormatMethod, Slots: 3, Spare: 1}, 1)
	succeeds(t, e)
	young := alloc(t, h, api.Eden, api.FormatPointers, 0)
	succeeds(t, h.SetSlot(o, 1, m))
	succeeds(t, h.SetSlot(m, 1, young))
	succeeds(t, h.SetByte(m, 6, 3))
	same(t, "byte", h.SetByte(m, 7, 3), api.ErrHeapIndex)
	same(t, "kind", h.SetSlot(m, 0, 9), api.ErrHeapKind)
	sameNoted(t, "noted", h, m)
	n, e := h.Hash(o)
	same(t, "hash", n, 40)
	succeeds(t, e)
	n, e = h.Hash(m)
	same(t, "hash", n, 1)
	succeeds(t, e)
	succeeds(t, h.Free(m))
	same(t, "room", h.Room(api.Pins), 16)
}
