package heap_test

import (
	"slices"
	"testing"

	"palaver/api"
	"palaver/heap"
)

// sameNoted tells also whether the headers say the same as the sequence.
func sameNoted(t *testing.T, what string, h *heap.Heap, want ...api.Oop) {
	t.Helper()
	sameList(t, what, noted(h), want)
	for _, sp := range allSpaces {
		for o := range h.Walk(sp) {
			if head(t, h, o).Noted != slices.Contains(want, o) {
				t.Errorf("%s: the header of %d: %v", what, o, head(t, h, o).Noted)
			}
		}
	}
}

// youngOnes are an object of each of the young spaces.
func youngOnes(t *testing.T, h *heap.Heap) []api.Oop {
	t.Helper()
	past := inPast(t, h, 1)
	return []api.Oop{alloc(t, h, api.Eden, api.FormatPointers, 1), past, alloc(t, h, api.Future, api.FormatPointers, 1)}
}

// SetSlot notes an old object of any format, in both old spaces, for a young one of any space: once, in the order in which it happens.
func TestSetSlotNotes(t *testing.T) {
	for which := range 3 {
		h := made(t)
		young := youngOnes(t, h)[which]
		pin := allocMethod(t, h, api.Pins, 1, 3)
		weak, ephemeron := alloc(t, h, api.Old, api.FormatWeak, 2), alloc(t, h, api.Old, api.FormatEphemeron, 2)
		method, plain := allocMethod(t, h, api.Old, 1, 3), alloc(t, h, api.Old, api.FormatPointers, 2)
		sameNoted(t, "none", h)
		succeeds(t, h.SetSlot(plain, 1, young))
		sameNoted(t, "one", h, plain)
		succeeds(t, h.SetSlot(pin, 1, young))
		succeeds(t, h.SetSlot(ephemeron, 0, young))
		sameNoted(t, "three", h, plain, pin, ephemeron)
		succeeds(t, h.SetSlot(plain, 0, young))
		succeeds(t, h.SetSlot(method, 1, young))
		succeeds(t, h.SetSlot(pin, 1, young))
		succeeds(t, h.SetSlot(weak, 1, young))
		sameNoted(t, "each once", h, plain, pin, ephemeron, method, weak)
		// That it no longer refers to one isn't seen by SetSlot.
		succeeds(t, h.SetSlot(plain, 0, 9))
		succeeds(t, h.SetSlot(plain, 1, 0))
		sameNoted(t, "still", h, plain, pin, ephemeron, method, weak)
	}
}

// What does not note: other values, young objects, roots, calls that fail.
func TestWhatDoesNotNote(t *testing.T) {
	h := made(t)
	young := youngOnes(t, h)
	old, pin := alloc(t, h, api.Old, api.FormatPointers, 2), alloc(t, h, api.Pins, api.FormatPointers, 2)
	for _, v := range []api.Oop{0, 9, 10, old, pin} {
		for _, o := range append([]api.Oop{old, pin}, young...) {
			succeeds(t, h.SetSlot(o, 0, v))
		}
	}
	for _, o := range young {
		for _, v := range young {
			succeeds(t, h.SetSlot(o, 0, v))
		}
		succeeds(t, h.SetSpecial(7, o))
		succeeds(t, h.SetClassAt(7, o))
		succeeds(t, second(h.Push(o)))
		succeeds(t, h.SetRoot(0, o))
		succeeds(t, h.Enqueue(o))
	}
	same(t, "error", h.SetSlot(old, 2, young[0]), api.ErrHeapIndex)
	m := allocMethod(t, h, api.Old, 1, 0)
	same(t, "error", h.SetSlot(m, 0, young[0]), api.ErrHeapKind)
	succeeds(t, h.SetFormat(old, api.FormatWeak))
	succeeds(t, h.SetClass(old, 4))
	h.Hash(old)
	h.Mark(old, true)
	sameNoted(t, "nothing", h)
}

// Alloc and AllocMethod note what refers to special 0, if that is young.
func TestAllocNotes(t *testing.T) {
	for which := range 3 {
		h := sized(t, api.Sizes{Eden: 64, Survivor: 16, Bound: 64, Pins: 64})
		young := youngOnes(t, h)[which]
		succeeds(t, h.SetSpecial(0, young))
		a := alloc(t, h, api.Old, api.FormatWeak, 1)
		b := allocMethod(t, h, api.Pins, 1, 0)
		c := alloc(t, h, api.Pins, api.FormatPointers, 2)
		d := allocMethod(t, h, api.Old, 2, 9)
		e := alloc(t, h, api.Old, api.FormatEphemeron, 1)
		sameNoted(t, "noted", h, a, b, c, d, e)
		same(t, "header", head(t, h, a), api.Header{Class: 5, Format: api.FormatWeak, Slots: 1, Noted: true})
		// Without an oop there is no reference; a young object is not noted.
		for _, sp := range []api.Space{api.Old, api.Pins} {
			alloc(t, h, sp, api.FormatPointers, 0)
			alloc(t, h, sp, api.FormatWords, 1)
			allocMethod(t, h, sp, 0, 1)
		}
		alloc(t, h, api.Old, api.FormatBytes, 3)
		alloc(t, h, api.Old, api.FormatWeak, 0)
		for _, sp := range []api.Space{api.Eden, api.Future} {
			alloc(t, h, sp, api.FormatPointers, 1)
			allocMethod(t, h, sp, 1, 1)
		}
		sameNoted(t, "no others", h, a, b, c, d, e)
		for _, v := range []api.Oop{0, 9, a} {
			succeeds(t, h.SetSpecial(0, v))
			alloc(t, h, api.Old, api.FormatPointers, 1)
		}
		sameNoted(t, "no others", h, a, b, c, d, e)
	}
}

// If special 0 names nothing any more, new oops are equal to it all the same, and name nothing.
func TestAllocWhereSpecial0IsGone(t *testing.T) {
	h := made(t)
	gone := alloc(t, h, api.Eden, api.FormatPointers, 0)
	succeeds(t, h.SetSpecial(0, gone))
	succeeds(t, h.Free(gone))
	o := alloc(t, h, api.Old, api.FormatPointers, 2)
	sameList(t, "oops", oopsOf(t, h, o), []api.Oop{gone, gone})
	sameNoted(t, "nothing", h)
}

func TestNote(t *testing.T) {
	h := made(t)
	for _, o := range youngOnes(t, h) {
		same(t, "young", h.Note(o), api.ErrHeapKind)
	}
	a, b := alloc(t, h, api.Old, api.FormatWords, 2), alloc(t, h, api.Pins, api.FormatPointers, 0)
	c := alloc(t, h, api.Old, api.FormatPointers, 1)
	sameNoted(t, "none", h)
	for _, o := range []api.Oop{b, c, a, b, a, c} {
		succeeds(t, h.Note(o))
	}
	sameNoted(t, "noted", h, b, c, a)
	same(t, "header", head(t, h, a), api.Header{Class: 5, Format: api.FormatWords, Slots: 2, Noted: true})
	// What SetSlot has noted, Note doesn't note again, and the other way round.
	young := alloc(t, h, api.Eden, api.FormatPointers, 0)
	d := alloc(t, h, api.Old, api.FormatPointers, 1)
	succeeds(t, h.SetSlot(d, 0, young))
	succeeds(t, h.Note(d))
	succeeds(t, h.SetSlot(c, 0, young))
	sameNoted(t, "noted", h, b, c, a, d)
}

// Free and Forward end it, in any order; what is noted later comes last.
func TestNotedTillFreed(t *testing.T) {
	for seed := range 40 {
		h := sized(t, api.Sizes{Eden: 64, Survivor: 16, Bound: 300, Pins: 200})
		p := &pair{t: t, seed: uint64(seed)}
		target := alloc(t, h, api.Old, api.FormatPointers, 0)
		var want []api.Oop
		for range 120 {
			switch p.draw(3 + seed%2) {
			case 0, 1:
				o, e := h.Alloc([]api.Space{api.Old, api.Pins}[p.draw(2)], 1, api.FormatPointers, 1)
				if e != api.OK {
					continue
				}
				succeeds(t, h.Note(o))
				want = append(want, o)
			default:
				if len(want) == 0 {
					continue
				}
				i := p.draw(len(want))
				if p.draw(2) == 0 {
					succeeds(t, h.Free(want[i]))
				} else {
					succeeds(t, h.Forward(want[i], target))
				}
				want = slices.Delete(want, i, i+1)
			}
			sameList(t, "noted", noted(h), want)
		}
	}
}

// An object at the address of a noted one that was freed is another one.
func TestNotNotedAtTheSameAddress(t *testing.T) {
	h := made(t)
	a, b := alloc(t, h, api.Pins, api.FormatPointers, 1), alloc(t, h, api.Pins, api.FormatPointers, 1)
	succeeds(t, h.Note(a))
	succeeds(t, h.Note(b))
	succeeds(t, h.Free(a))
	sameNoted(t, "freed", h, b)
	same(t, "address", alloc(t, h, api.Pins, api.FormatPointers, 1), a)
	sameNoted(t, "not noted", h, b)
	succeeds(t, h.Note(a))
	sameNoted(t, "last", h, b, a)
	// Likewise in the old space, where the words are used again after a Slide.
	h = made(t)
	a, b = alloc(t, h, api.Old, api.FormatPointers, 1), alloc(t, h, api.Old, api.FormatPointers, 1)
	succeeds(t, h.Note(a))
	succeeds(t, h.Note(b))
	succeeds(t, h.Free(b))
	h.Slide()
	same(t, "address", alloc(t, h, api.Old, api.FormatPointers, 1), b)
	sameNoted(t, "not noted", h, a)
	succeeds(t, h.Note(b))
	sameNoted(t, "last", h, a, b)
}

func TestNotedLeftEarlyAndNested(t *testing.T) {
	h := made(t)
	sequence := h.Noted()
	sameList(t, "none", slices.Collect(sequence), nil)
	var l []api.Oop
	for i := range 5 {
		l = append(l, alloc(t, h, []api.Space{api.Old, api.Pins}[i%2], api.FormatPointers, 1))
	}
	l[0], l[3] = l[3], l[0]
	for _, o := range l {
		succeeds(t, h.Note(o))
	}
	// What was made before yields what is there by now, as often as it is gone through.
	sameList(t, "noted", slices.Collect(sequence), l)
	sameList(t, "noted", slices.Collect(sequence), l)
	succeeds(t, h.Free(l[1]))
	l = slices.Delete(l, 1, 2)
	for n := 1; n <= 4; n++ {
		var got []api.Oop
		for o := range h.Noted() {
			got = append(got, o)
			if len(got) == n {
				break
			}
		}
		sameList(t, "left early", got, l[:n])
	}
	n := 0
	for o := range sequence {
		for v := range sequence {
			n++
			if v == o {
				break
			}
		}
	}
	same(t, "nested", n, 1+2+3+4)
}

// Flip keeps noted what refers to one that is young then, in its order.
func TestFlipUnnotes(t *testing.T) {
	h := made(t)
	young := youngOnes(t, h)
	eden, past, future := young[0], young[1], young[2]
	l := map[string]api.Oop{}
	var order []string
	note := func(name string, sp api.Space, f api.Format, oops ...api.Oop) {
		order = append(order, name)
		if f == api.FormatMethod {
			l[name] = allocMethod(t, h, sp, len(oops), 2)
		} else {
			l[name] = alloc(t, h, sp, f, len(oops))
		}
		for i, v := range oops {
			if f == api.FormatMethod {
				i++
			}
			succeeds(t, h.SetSlot(l[name], i, v))
		}
		succeeds(t, h.Note(l[name]))
	}
	note("to eden", api.Old, api.FormatPointers, eden)
	note("to future", api.Old, api.FormatPointers, future)
	note("to past", api.Old, api.FormatPointers, past, past)
	note("to eden and last to future", api.Pins, api.FormatWeak, eden, 9, future)
	note("to old", api.Old, api.FormatPointers, l["to eden"], l["to future"])
	note("a method to future", api.Old, api.FormatMethod, 9, future)
	note("a method to eden", api.Old, api.FormatMethod, eden)
	note("without oops", api.Pins, api.FormatPointers)
	note("an ephemeron to future", api.Old, api.FormatEphemeron, future)
	words := alloc(t, h, api.Old, api.FormatWords, 1)
	succeeds(t, h.SetWord(words, 0, uint64(future)))
	succeeds(t, h.Note(words))
	plain := alloc(t, h, api.Old, api.FormatPointers, 1)
	var all []api.Oop
	for _, name := range order {
		all = append(all, l[name])
	}
	sameNoted(t, "before", h, append(all, words)...)
	h.Flip()
	kept := []api.Oop{l["to future"], l["to eden and last to future"], l["a method to future"], l["an ephemeron to future"]}
	sameNoted(t, "after", h, kept...)
	sameList(t, "oops", oopsOf(t, h, l["to eden"]), []api.Oop{eden})
	// What isn't noted any more may be noted again, as the last one.
	succeeds(t, h.SetSlot(l["to eden"], 0, future))
	succeeds(t, h.SetSlot(plain, 0, future))
	sameNoted(t, "again", h, append(kept, l["to eden"], plain)...)
	h.Flip()
	sameNoted(t, "no young ones are left", h)
}
