package heap_test

import (
	"math"
	"slices"
	"testing"

	"palaver/api"
	"palaver/heap"
)

// filled has objects of each format in the old space, with a gap ahead of each that gap names; where they will be.
func filled(t *testing.T, h *heap.Heap, gap func(i int) int) ([]api.Oop, []api.Oop) {
	t.Helper()
	var l, goals []api.Oop
	at := api.Oop(oldAt)
	for i := range 6 {
		if n := gap(i); n > 0 {
			succeeds(t, h.Free(alloc(t, h, api.Old, api.FormatPointers, n-2)))
		}
		if i == 5 {
			l = append(l, allocMethod(t, h, api.Old, 2, 11))
		} else {
			l = append(l, alloc(t, h, api.Old, api.Format(i+1), 4))
		}
		goals = append(goals, at)
		at += api.Oop(8 * (2 + head(t, h, l[i]).Slots))
	}
	return l, goals
}

// The objects come to lie one behind the other, in order, with all that is in them.
func TestSlide(t *testing.T) {
	for name, c := range map[string]struct {
		gap   func(i int) int
		moved int
	}{
		"no gaps":            {func(i int) int { return 0 }, 0},
		"one at the start":   {func(i int) int { return []int{2, 0, 0, 0, 0, 0}[i] }, 6},
		"one in the middle":  {func(i int) int { return []int{0, 0, 0, 2, 0, 0}[i] }, 3},
		"one ahead of all":   {func(i int) int { return 2 }, 6},
		"longer ones":        {func(i int) int { return 3 * i }, 5},
		"one of many words":  {func(i int) int { return []int{0, 70, 0, 0, 0, 0}[i] }, 5},
		"behind and between": {func(i int) int { return []int{0, 5, 0, 2, 9, 0}[i] }, 5},
	} {
		h := made(t)
		l, goals := filled(t, h, c.gap)
		var looks []seen
		for i, o := range l {
			if i%2 == 0 {
				h.Hash(o)
				h.Mark(o, true)
			}
			for j := range oopsOf(t, h, o) {
				if i < 5 || j > 0 {
					succeeds(t, h.SetSlot(o, j, api.Oop(8*(10*i+j)+1)))
				}
			}
			for j := range bytesOf(t, h, o) {
				succeeds(t, h.SetByte(o, j, byte(200+i+j)))
			}
			for j := range wordsOf(t, h, o) {
				succeeds(t, h.SetWord(o, j, math.MaxUint64-uint64(j)))
			}
			looks = append(looks, look(t, h, o))
		}
		// The top may be behind the last object.
		succeeds(t, h.Free(alloc(t, h, api.Old, api.FormatPointers, 3)))
		used := h.Used(api.Old)
		same(t, name+": moved", h.Slide(), c.moved)
		sameList(t, name, walked(h, api.Old), goals)
		for i, o := range goals {
			sameLook(t, name, look(t, h, o), looks[i])
			same(t, "space", h.Space(o), api.Old)
		}
		same(t, name+": used", h.Used(api.Old), used)
		same(t, name+": room", h.Room(api.Old), 160-used)
		for _, o := range l {
			same(t, name+": is", h.Is(o), slices.Contains(goals, o))
		}
		same(t, name+": next", alloc(t, h, api.Old, api.FormatPointers, 0), api.Oop(oldAt+8*used))
		same(t, name+": again", h.Slide(), 0)
	}
}

func TestSlideOfNothing(t *testing.T) {
	h := made(t)
	same(t, "moved", h.Slide(), 0)
	for range 4 {
		succeeds(t, h.Free(alloc(t, h, api.Old, api.FormatPointers, 20)))
	}
	same(t, "room", h.Room(api.Old), 72)
	same(t, "moved", h.Slide(), 0)
	same(t, "room", h.Room(api.Old), 160)
	same(t, "address", alloc(t, h, api.Old, api.FormatWords, 158), oldAt)
}

// All that refers to an object that moves refers to it behind the move.
func TestSlideUpdatesReferences(t *testing.T) {
	h := made(t)
	gone := alloc(t, h, api.Old, api.FormatPointers, 1)
	a := alloc(t, h, api.Old, api.FormatWeak, 5)
	freed := alloc(t, h, api.Old, api.FormatPointers, 0)
	b := allocMethod(t, h, api.Old, 3, 9)
	c := alloc(t, h, api.Old, api.FormatEphemeron, 3)
	newA, newB, newC := gone, gone+7*8, gone+7*8+8*8
	past := inPast(t, h, 3)
	eden, future := alloc(t, h, api.Eden, api.FormatPointers, 3), alloc(t, h, api.Future, api.FormatWeak, 3)
	pin, method := alloc(t, h, api.Pins, api.FormatPointers, 3), allocMethod(t, h, api.Pins, 2, 9)
	for _, o := range []api.Oop{past, eden, future, pin} {
		for i, v := range []api.Oop{a, freed, c} {
			succeeds(t, h.SetSlot(o, i, v))
		}
	}
	for i, v := range []api.Oop{a, c, gone, 9, pin} {
		succeeds(t, h.SetSlot(a, i, v))
	}
	for i, v := range []api.Oop{b, eden, a} {
		succeeds(t, h.SetSlot(b, 1+i, v))
	}
	succeeds(t, h.SetSlot(method, 1, b))
	succeeds(t, h.SetSlot(method, 2, c))
	succeeds(t, h.SetSlot(c, 0, c))
	succeeds(t, h.SetSlot(c, 2, b))
	words, bytes := alloc(t, h, api.Eden, api.FormatWords, 1), alloc(t, h, api.Eden, api.FormatBytes, 2)
	succeeds(t, h.SetWord(words, 0, uint64(a)))
	succeeds(t, h.SetByte(bytes, 0, byte(a)))
	succeeds(t, h.SetByte(bytes, 1, byte(a>>8)))
	succeeds(t, h.SetSpecial(0, a))
	succeeds(t, h.SetSpecial(63, b))
	succeeds(t, h.SetClassAt(0, c))
	succeeds(t, h.SetClassAt(4095, a))
	for _, v := range []api.Oop{b, freed, 9, c} {
		succeeds(t, second(h.Push(v)))
	}
	for _, v := range []api.Oop{a, gone, c} {
		succeeds(t, h.Enqueue(v))
	}
	succeeds(t, h.Free(gone))
	succeeds(t, h.Free(freed))
	notedBefore := noted(h)
	sameList(t, "noted", notedBefore, []api.Oop{b})

	same(t, "moved", h.Slide(), 3)
	sameList(t, "old", walked(h, api.Old), []api.Oop{newA, newB, newC})
	for _, o := range []api.Oop{past, eden, future, pin} {
		sameList(t, "from elsewhere", oopsOf(t, h, o), []api.Oop{newA, freed, newC})
	}
	// gone was the address of an object that is no more, and is the address of another one now.
	sameList(t, "weak", oopsOf(t, h, newA), []api.Oop{newA, newC, gone, 9, pin})
	sameList(t, "method", oopsOf(t, h, newB), []api.Oop{25, newB, eden, newA})
	sameList(t, "ephemeron", oopsOf(t, h, newC), []api.Oop{newC, 0, newB})
	sameList(t, "a method in pins", oopsOf(t, h, method), []api.Oop{17, newB, newC})
	same(t, "word", wordsOf(t, h, words)[0], uint64(a))
	same(t, "bytes", string(bytesOf(t, h, bytes)), string([]byte{byte(a), byte(a >> 8)}))
	want := make([]api.Oop, 64+4096)
	want[0], want[63], want[64], want[64+4095] = newA, newB, newC, newA
	want = append(want, newB, freed, 9, newC, newA, gone, newC)
	sameList(t, "roots", slices.Collect(h.Roots()), want)
	sameNoted(t, "noted", h, newB)
}

// Targets of forwarded addresses in all other spaces are updated; forwarded addresses in the old space are forgotten, and what referred to them stays.
func TestSlideUpdatesTargets(t *testing.T) {
	h := made(t)
	gone := alloc(t, h, api.Old, api.FormatPointers, 1)
	old := alloc(t, h, api.Old, api.FormatPointers, 0)
	a, b := alloc(t, h, api.Old, api.FormatPointers, 1), alloc(t, h, api.Old, api.FormatPointers, 1)
	lost := alloc(t, h, api.Old, api.FormatPointers, 0)
	past := inPast(t, h, 1)
	eden, future := alloc(t, h, api.Eden, api.FormatPointers, 1), alloc(t, h, api.Future, api.FormatPointers, 1)
	pin, other := alloc(t, h, api.Pins, api.FormatPointers, 1), alloc(t, h, api.Pins, api.FormatPointers, 1)
	edenToPin, edenToLost := alloc(t, h, api.Eden, api.FormatPointers, 1), alloc(t, h, api.Eden, api.FormatPointers, 1)
	succeeds(t, h.SetSlot(a, 0, old))
	for _, c := range [][2]api.Oop{{eden, a}, {past, b}, {future, a}, {pin, b}, {old, a}, {edenToPin, other}, {edenToLost, lost}} {
		succeeds(t, h.Forward(c[0], c[1]))
	}
	succeeds(t, h.Free(gone))
	succeeds(t, h.Free(lost))
	same(t, "moved", h.Slide(), 2)
	newA, newB := gone, gone+24
	sameForwarded(t, h, eden, newA)
	sameForwarded(t, h, past, newB)
	sameForwarded(t, h, future, newA)
	sameForwarded(t, h, pin, newB)
	sameForwarded(t, h, edenToPin, other)
	sameForwarded(t, h, edenToLost, lost)
	sameForwarded(t, h, old, 0)
	sameList(t, "oops", oopsOf(t, h, newA), []api.Oop{old})
}

// Noted objects stay noted, in their order, with pins among them.
func TestSlideKeepsNoted(t *testing.T) {
	h := made(t)
	young := alloc(t, h, api.Eden, api.FormatPointers, 0)
	var l []api.Oop
	for i := range 6 {
		l = append(l, alloc(t, h, api.Old, api.FormatPointers, i))
	}
	pin := alloc(t, h, api.Pins, api.FormatPointers, 1)
	for _, o := range []api.Oop{l[4], pin, l[1], l[5], l[0], l[3]} {
		succeeds(t, h.Note(o))
	}
	succeeds(t, h.SetSlot(l[2], 0, young))
	succeeds(t, h.Free(l[0]))
	succeeds(t, h.Free(l[3]))
	same(t, "moved", h.Slide(), 4)
	at := func(words int) api.Oop { return api.Oop(oldAt + 8*words) }
	want := []api.Oop{at(7), pin, at(0), at(13), at(3)}
	sameNoted(t, "noted", h, want...)
	// What is noted already isn't noted once more, and what is freed is forgotten.
	for _, o := range want {
		succeeds(t, h.Note(o))
	}
	sameNoted(t, "noted", h, want...)
	succeeds(t, h.Free(at(0)))
	sameNoted(t, "freed", h, at(7), pin, at(13), at(3))
	h.Flip()
	sameNoted(t, "flipped", h)
}

// Young objects and pins stay where they are, and so do the tops of their spaces.
func TestSlideLeavesTheRest(t *testing.T) {
	h := made(t)
	succeeds(t, h.Free(alloc(t, h, api.Old, api.FormatPointers, 1)))
	alloc(t, h, api.Old, api.FormatPointers, 2)
	for _, sp := range []api.Space{api.Eden, api.Future, api.Pins} {
		a, b := alloc(t, h, sp, api.FormatPointers, 1), alloc(t, h, sp, api.FormatPointers, 2)
		succeeds(t, h.Free(a))
		h.Hash(b)
	}
	before := pictureOf(t, h, small())
	same(t, "moved", h.Slide(), 1)
	after := pictureOf(t, h, small())
	for _, p := range []*picture{&before, &after} {
		p.Objects = slices.DeleteFunc(p.Objects, func(s seen) bool { return s.Space == api.Old })
		p.Rooms[api.Old], p.Walks[api.Old] = 0, nil
	}
	samePicture(t, "the rest", after, before)
}

// Many objects of many sizes, that refer to each other.
func TestSlideOfMany(t *testing.T) {
	h := sized(t, api.Sizes{Eden: 65536, Survivor: 16, Bound: 1048576})
	p := &pair{t: t, seed: 3}
	var l []api.Oop
	for i := 0; h.Room(api.Old) > 40; i++ {
		o := alloc(t, h, api.Old, api.FormatPointers, 1+p.draw(30))
		succeeds(t, h.SetSlot(o, 0, api.Oop(8*len(l)+1)))
		l = append(l, o)
	}
	kept := map[int]bool{}
	for i, o := range l {
		if p.draw(3) > 0 {
			kept[i] = true
			continue
		}
		succeeds(t, h.Free(o))
	}
	// Each refers to one that is kept, by the number of which it is known again.
	refers := map[int]int{}
	for i := range l {
		for j := p.draw(len(l)); kept[i]; j = (j + 1) % len(l) {
			if n, _ := h.Oops(l[i]); !kept[j] || n < 2 {
				if n < 2 {
					break
				}
				continue
			}
			succeeds(t, h.SetSlot(l[i], 1, l[j]))
			refers[i] = j
			break
		}
	}
	used := h.Used(api.Old)
	h.Slide()
	same(t, "room", h.Room(api.Old), 1048576+65536+32-used)
	at, objects := walked(h, api.Old)[0], 0
	for o := range h.Walk(api.Old) {
		same(t, "address", o, at)
		at += api.Oop(8 * (2 + head(t, h, o).Slots))
		objects++
		v, _ := h.Slot(o, 0)
		if j, is := refers[int(v/8)]; is {
			to, _ := h.Slot(o, 1)
			number, e := h.Slot(to, 0)
			succeeds(t, e)
			same(t, "reference", number, api.Oop(8*j+1))
		}
	}
	same(t, "objects", objects, len(kept))
	if len(refers) < 10000 {
		t.Error(len(refers))
	}
}
