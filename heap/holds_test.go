package heap_test

import (
	"slices"
	"testing"

	"palaver/api"
)

func TestExample1(t *testing.T) {
	h := made(t)
	o, e := h.Alloc(api.Eden, 5, api.FormatPointers, 2)
	same(t, "first", o, 16)
	succeeds(t, e)
	o, e = h.Alloc(api.Eden, 5, api.FormatBytes, 9)
	same(t, "second", o, 48)
	succeeds(t, e)
	same(t, "header", head(t, h, 48), api.Header{Class: 5, Format: api.FormatBytes, Spare: 7, Slots: 2})
	same(t, "room", h.Room(api.Eden), 56)
	same(t, "byte", second(h.Byte(48, 9)), api.ErrHeapIndex)
	same(t, "slot", second(h.Slot(48, 0)), api.ErrHeapIndex)
	same(t, "word", second(h.Word(48, 0)), api.ErrHeapKind)
	same(t, "is", h.Is(24), false)
}

func TestExample2(t *testing.T) {
	h := made(t)
	same(t, "an object of eden", alloc(t, h, api.Eden, api.FormatPointers, 2), 16)
	m, e := h.AllocMethod(api.Old, 7, 1, 3)
	same(t, "method", m, 784)
	succeeds(t, e)
	n, e := h.Oops(784)
	same(t, "oops", n, 2)
	succeeds(t, e)
	v, e := h.Slot(784, 0)
	same(t, "slot", v, 9)
	succeeds(t, e)
	same(t, "set", h.SetSlot(784, 0, 1), api.ErrHeapKind)
	sameNoted(t, "before", h)
	succeeds(t, h.SetSlot(784, 1, 16))
	sameNoted(t, "after", h, 784)
}

func TestExample3(t *testing.T) {
	h := made(t)
	alloc(t, h, api.Eden, api.FormatPointers, 2)
	alloc(t, h, api.Eden, api.FormatBytes, 9)
	for i, o := range []api.Oop{16, 48, 16} {
		n, e := h.Hash(o)
		same(t, "hash", n, []int{1, 2, 1}[i])
		succeeds(t, e)
	}
	succeeds(t, h.Free(16))
	n, e := h.Hash(16)
	same(t, "hash", n, 0)
	same(t, "hash", e, api.ErrHeapOop)
	same(t, "room", h.Room(api.Eden), 56)
	same(t, "used", h.Used(api.Eden), 4)
}

// What holds: an object keeps what was stored in it, whatever else is allocated.
func TestObjectsKeepWhatWasStored(t *testing.T) {
	z := api.Sizes{Eden: 2048, Survivor: 512, Bound: 4096, Pins: 1024}
	h := sized(t, z)
	p := &pair{t: t, seed: 9}
	var all []api.Oop
	want := map[api.Oop]seen{}
	for _, sp := range []api.Space{api.Eden, api.Future, api.Old, api.Pins} {
		for h.Room(sp) > 40 {
			l := kinds(t, h, sp)
			for _, o := range l {
				if len(oopsOf(t, h, o)) > 1 && len(all) > 0 {
					succeeds(t, h.SetSlot(o, 1, all[p.draw(len(all))]))
				}
				if p.draw(2) == 0 {
					h.Hash(o)
				}
				want[o] = look(t, h, o)
			}
			all = append(all, l...)
		}
	}
	for _, o := range all {
		sameLook(t, "kept", look(t, h, o), want[o])
	}
	if len(all) < 600 {
		t.Error(len(all))
	}
}

// What holds: heaps are independent of each other.
func TestHeapsSideBySide(t *testing.T) {
	z, y := small(), api.Sizes{Eden: 70, Survivor: 33, Bound: 101, Pins: 64}
	p := &pair{t: t, h: sized(t, z), m: modelOf(z), seed: 21}
	q := &pair{t: t, h: sized(t, y), m: modelOf(y), seed: 22}
	twin := &pair{t: t, h: sized(t, z), m: modelOf(z), seed: 21}
	untouched := made(t)
	empty := pictureOf(t, untouched, z)
	for range 1500 {
		p.step()
		q.step()
		twin.step()
	}
	samePicture(t, "the first", pictureOf(t, p.h, z), p.m.picture())
	samePicture(t, "the second", pictureOf(t, q.h, y), q.m.picture())
	samePicture(t, "the first one's twin", pictureOf(t, twin.h, z), pictureOf(t, p.h, z))
	samePicture(t, "the one that was left alone", pictureOf(t, untouched, z), empty)
}

// What was made in one heap before another one comes has nothing to do with it.
func TestOneHeapAfterAnother(t *testing.T) {
	first := made(t)
	o := alloc(t, first, api.Old, api.FormatPointers, 2)
	first.Hash(o)
	succeeds(t, first.Note(o))
	succeeds(t, first.SetSpecial(0, o))
	succeeds(t, first.Enqueue(o))
	next := made(t)
	same(t, "given", next.Given(), 0)
	same(t, "is", next.Is(o), false)
	same(t, "queued", next.Queued(), 0)
	sameList(t, "noted", noted(next), nil)
	same(t, "roots", slices.ContainsFunc(slices.Collect(next.Roots()), func(v api.Oop) bool { return v != 0 }), false)
}
