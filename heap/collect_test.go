package heap_test

import (
	"fmt"
	"math"
	"slices"
	"testing"

	"palaver/api"
	"palaver/heap"
)

// kinds is an object of each format in a space, with something in each of its parts.
func kinds(t *testing.T, h *heap.Heap, sp api.Space) []api.Oop {
	t.Helper()
	var l []api.Oop
	for f := api.FormatPointers; f <= api.FormatBytes; f++ {
		l = append(l, alloc(t, h, sp, f, 3))
	}
	l = append(l, allocMethod(t, h, sp, 2, 5))
	for i, o := range l {
		succeeds(t, h.SetClass(o, 4000+i))
		for j := range oopsOf(t, h, o) {
			if j > 0 || head(t, h, o).Format != api.FormatMethod {
				succeeds(t, h.SetSlot(o, j, api.Oop(8*(10*i+j)+1)))
			}
		}
		for j := range bytesOf(t, h, o) {
			succeeds(t, h.SetByte(o, j, byte(200+10*i+j)))
		}
		for j := range wordsOf(t, h, o) {
			succeeds(t, h.SetWord(o, j, math.MaxUint64-uint64(10*i+j)))
		}
	}
	return l
}

// look is all of an object but where it is.
func look(t *testing.T, h *heap.Heap, o api.Oop) seen {
	t.Helper()
	return seen{Head: head(t, h, o), Oops: oopsOf(t, h, o), Bytes: bytesOf(t, h, o), Words: wordsOf(t, h, o)}
}

func sameLook(t *testing.T, what string, got, want seen) {
	t.Helper()
	same(t, what, fmt.Sprintf("%+v", got), fmt.Sprintf("%+v", want))
}

// A copy of each format from each space into each other one.
func TestCopy(t *testing.T) {
	z := api.Sizes{Eden: 512, Survivor: 512, Bound: 512, Pins: 512}
	for _, from := range []api.Space{api.Eden, api.Past, api.Future, api.Old, api.Pins} {
		for i, to := range []api.Space{api.Future, api.Old, api.Pins} {
			h := sized(t, z)
			var l []api.Oop
			if from == api.Past {
				l = kinds(t, h, api.Future)
				h.Flip()
			} else {
				l = kinds(t, h, from)
			}
			for _, o := range l {
				same(t, "space", h.Space(o), from)
				if head(t, h, o).Class%2 == 0 {
					h.Hash(o)
					h.Mark(o, true)
				}
				if from >= api.Old {
					succeeds(t, h.Note(o))
				}
				before, noted := look(t, h, o), noted(h)
				room, given := h.Room(to), h.Given()
				c, e := h.Copy(o, to, 15-i)
				succeeds(t, e)
				same(t, "space", h.Space(c), to)
				want := before
				want.Head.Age, want.Head.Marked, want.Head.Noted = 15-i, false, false
				sameLook(t, "copy", look(t, h, c), want)
				sameLook(t, "original", look(t, h, o), before)
				sameList(t, "noted", slices.Collect(h.Noted()), noted)
				same(t, "room", h.Room(to), room-2-before.Head.Slots)
				same(t, "given", h.Given(), given)
				// From now on they are two.
				switch before.Head.Format {
				case api.FormatWords:
					succeeds(t, h.SetWord(c, 0, 1))
				case api.FormatBytes:
					succeeds(t, h.SetByte(c, 0, 1))
				default:
					succeeds(t, h.SetSlot(c, 1, 17))
				}
				sameLook(t, "original", look(t, h, o), before)
			}
		}
	}
}

// A copy refers to what its original refers to, whatever that is, and isn't noted for it.
func TestCopyOfReferences(t *testing.T) {
	h := made(t)
	young := alloc(t, h, api.Eden, api.FormatPointers, 0)
	o := alloc(t, h, api.Old, api.FormatPointers, 4)
	for i, v := range []api.Oop{young, o, young, 10} {
		succeeds(t, h.SetSlot(o, i, v))
	}
	succeeds(t, h.Replace(o, func(v api.Oop) api.Oop {
		if v == o {
			return 20
		}
		return v
	}))
	for _, sp := range []api.Space{api.Old, api.Pins, api.Future} {
		c, e := h.Copy(o, sp, 0)
		succeeds(t, e)
		sameList(t, "oops", oopsOf(t, h, c), []api.Oop{young, 20, young, 10})
		same(t, "header", head(t, h, c), api.Header{Class: 5, Format: api.FormatPointers, Slots: 4})
	}
	sameNoted(t, "the original", h, o)
}

func TestCopyIntoRoomThatIsEnoughOrNot(t *testing.T) {
	for sp, room := range map[api.Space]int{api.Future: 16, api.Old: 160, api.Pins: 16} {
		for _, left := range []int{5, 4, 2, 0} {
			h := made(t)
			o := alloc(t, h, api.Eden, api.FormatPointers, 3)
			if left < room {
				alloc(t, h, sp, api.FormatWords, room-left-2)
			}
			c, e := h.Copy(o, sp, 1)
			if left == 5 {
				succeeds(t, e)
				same(t, "room", h.Room(sp), 0)
				same(t, "space", h.Space(c), sp)
				continue
			}
			same(t, "copy", c, 0)
			same(t, "error", e, api.ErrHeapFull)
			same(t, "room", h.Room(sp), left)
			// What may not be comes first.
			same(t, "error", second(h.Copy(o, sp, 16)), api.ErrArg)
			same(t, "error", second(h.Copy(o, sp, -1)), api.ErrArg)
		}
	}
	// A copy goes into the first gap that is long enough.
	p, l := pinned(t, []int{0, 2}, 3, 2, 5, 2)
	o, e := p.h.Copy(l[1], api.Pins, 0)
	same(t, "first gap", o, l[0])
	succeeds(t, e)
	big := alloc(t, p.h, api.Old, api.FormatPointers, 2)
	o, e = p.h.Copy(big, api.Pins, 0)
	same(t, "first gap", o, l[2])
	succeeds(t, e)
}

func TestCopyOfWhatMayNotBe(t *testing.T) {
	h := made(t)
	o := alloc(t, h, api.Eden, api.FormatPointers, 1)
	before := pictureOf(t, h, small())
	for _, sp := range []api.Space{0, api.Eden, api.Past, 6, 255} {
		for _, age := range []int{0, 15, 16} {
			c, e := h.Copy(o, sp, age)
			same(t, "copy", c, 0)
			same(t, "error", e, api.ErrArg)
		}
	}
	for _, sp := range []api.Space{api.Future, api.Old, api.Pins} {
		for _, age := range []int{-1, 16, 17, math.MinInt, math.MaxInt, 1 << 32} {
			same(t, "error", second(h.Copy(o, sp, age)), api.ErrArg)
		}
	}
	samePicture(t, "after what failed", pictureOf(t, h, small()), before)
	for _, age := range []int{0, 1, 14, 15} {
		c, e := h.Copy(o, api.Old, age)
		succeeds(t, e)
		same(t, "age", head(t, h, c).Age, age)
	}
}

func TestMark(t *testing.T) {
	h := made(t)
	for _, sp := range []api.Space{api.Eden, api.Future, api.Old, api.Pins} {
		o := alloc(t, h, sp, api.FormatPointers, 2)
		other := alloc(t, h, sp, api.FormatPointers, 1)
		want := head(t, h, o)
		was := false
		for _, mark := range []bool{false, true, true, false, false, true} {
			before, e := h.Mark(o, mark)
			same(t, "before", before, was)
			succeeds(t, e)
			want.Marked = mark
			same(t, "header", head(t, h, o), want)
			same(t, "another one", head(t, h, other).Marked, false)
			was = mark
		}
	}
}

func TestFree(t *testing.T) {
	for _, sp := range []api.Space{api.Eden, api.Future, api.Old, api.Pins} {
		h := made(t)
		l := []api.Oop{alloc(t, h, sp, api.FormatPointers, 1), alloc(t, h, sp, api.FormatPointers, 2), alloc(t, h, sp, api.FormatPointers, 0)}
		succeeds(t, h.SetSlot(l[0], 0, l[1]))
		succeeds(t, second(h.Push(l[1])))
		succeeds(t, h.Enqueue(l[1]))
		succeeds(t, h.Free(l[1]))
		same(t, "is", h.Is(l[1]), false)
		same(t, "again", h.Free(l[1]), api.ErrHeapOop)
		sameList(t, "walk", walked(h, sp), []api.Oop{l[0], l[2]})
		same(t, "used", h.Used(sp), 5)
		// What referred to it is as it was.
		sameList(t, "oops", oopsOf(t, h, l[0]), []api.Oop{l[1]})
		v, _ := h.Root(0)
		same(t, "root", v, l[1])
		same(t, "queue", h.Dequeue(), l[1])
		_, is := h.Forwarded(l[1])
		same(t, "forwarded", is, false)
	}
}

func sameForwarded(t *testing.T, h *heap.Heap, o, to api.Oop) {
	t.Helper()
	got, is := h.Forwarded(o)
	if got != to || is != (to != 0) {
		t.Errorf("Forwarded(%d): %d %v, not %d", o, got, is, to)
	}
}

func TestForward(t *testing.T) {
	h := made(t)
	past := inPast(t, h, 1)
	l := []api.Oop{past}
	for _, sp := range []api.Space{api.Eden, api.Future, api.Old, api.Pins} {
		l = append(l, alloc(t, h, sp, api.FormatPointers, 1))
	}
	target := alloc(t, h, api.Old, api.FormatPointers, 0)
	for _, o := range l {
		sp := h.Space(o)
		used := h.Used(sp)
		sameForwarded(t, h, o, 0)
		same(t, "to itself", h.Forward(o, o), api.ErrArg)
		same(t, "to nothing", h.Forward(o, 0), api.ErrArg)
		same(t, "to a number", h.Forward(o, 9), api.ErrArg)
		same(t, "into an object", h.Forward(o, target+8), api.ErrArg)
		sameForwarded(t, h, o, 0)
		same(t, "is", h.Is(o), true)
		succeeds(t, h.Forward(o, target))
		sameForwarded(t, h, o, target)
		same(t, "is", h.Is(o), false)
		same(t, "space", h.Space(o), 0)
		same(t, "used", h.Used(sp), used-3)
		same(t, "again", h.Forward(o, target), api.ErrHeapOop)
		same(t, "to what was forwarded", h.Forward(target, o), api.ErrArg)
		same(t, "stored", second(h.Push(o)), api.ErrArg)
		sameForwarded(t, h, o, target)
		sameForwarded(t, h, o+8, 0)
		sameForwarded(t, h, o+1, 0)
	}
	sameForwarded(t, h, target, 0)
	for _, o := range []api.Oop{0, 1, 2, 3, 8, endAt, 1<<31 - 8, 1 << 31, math.MaxUint64} {
		sameForwarded(t, h, o, 0)
	}
	// The target is the one that was said, even if it is forwarded itself, or freed.
	next := alloc(t, h, api.Old, api.FormatPointers, 0)
	succeeds(t, h.Forward(target, next))
	for _, o := range l {
		sameForwarded(t, h, o, target)
	}
	sameForwarded(t, h, target, next)
	succeeds(t, h.Free(next))
	sameForwarded(t, h, target, next)
}

// The words of a forwarded pin are a gap; the address stays forwarded, and the last Forward counts.
func TestForwardOfPins(t *testing.T) {
	p, l := pinned(t, nil, 4, 4, 4, 4)
	h := p.h
	succeeds(t, h.Note(l[1]))
	succeeds(t, h.Forward(l[1], l[0]))
	same(t, "room", h.Room(api.Pins), 4)
	sameList(t, "noted", noted(h), nil)
	o := alloc(t, h, api.Pins, api.FormatWords, 2)
	same(t, "address", o, l[1])
	same(t, "is", h.Is(o), true)
	sameForwarded(t, h, o, l[0])
	succeeds(t, h.Forward(o, l[2]))
	sameForwarded(t, h, o, l[2])
	// Neither what Flip does nor what Slide does is done to pins.
	h.Flip()
	h.Slide()
	h.Flip()
	sameForwarded(t, h, o, l[2])
}

// Forwarded addresses are forgotten when their space is emptied, or slid: and only then.
func TestForwardedTill(t *testing.T) {
	h := made(t)
	past := inPast(t, h, 1)
	eden, future := alloc(t, h, api.Eden, api.FormatPointers, 0), alloc(t, h, api.Future, api.FormatPointers, 1)
	old, pin := alloc(t, h, api.Old, api.FormatPointers, 0), alloc(t, h, api.Pins, api.FormatPointers, 0)
	target := alloc(t, h, api.Pins, api.FormatPointers, 0)
	l := []api.Oop{eden, past, future, old, pin}
	for _, o := range l {
		succeeds(t, h.Forward(o, target))
	}
	check := func(what string, want ...api.Oop) {
		t.Helper()
		for _, o := range l {
			if to, is := h.Forwarded(o); is != slices.Contains(want, o) || is && to != target || !is && to != 0 {
				t.Errorf("%s: Forwarded(%d): %d %v", what, o, to, is)
			}
		}
	}
	check("forwarded", l...)
	h.Flip()
	check("flipped", future, old, pin)
	// New objects in an emptied space are not forwarded.
	same(t, "address", alloc(t, h, api.Eden, api.FormatPointers, 0), eden)
	same(t, "address", alloc(t, h, api.Future, api.FormatPointers, 0), past)
	check("flipped", future, old, pin)
	h.Flip()
	check("flipped twice", old, pin)
	same(t, "moved", h.Slide(), 0)
	check("slid", pin)
	same(t, "address", alloc(t, h, api.Old, api.FormatPointers, 0), old)
	check("slid", pin)
	// The other way round, too.
	h = made(t)
	old, eden = alloc(t, h, api.Old, api.FormatPointers, 0), alloc(t, h, api.Eden, api.FormatPointers, 0)
	target = alloc(t, h, api.Pins, api.FormatPointers, 0)
	l = []api.Oop{old, eden}
	for _, o := range l {
		succeeds(t, h.Forward(o, target))
	}
	h.Slide()
	check("slid", eden)
	h.Flip()
	check("flipped")
}

// calls is a function for Replace that keeps the oops that it was called for.
type calls struct {
	seen []api.Oop
	f    func(v api.Oop) api.Oop
}

func (c *calls) call(v api.Oop) api.Oop {
	c.seen = append(c.seen, v)
	return c.f(v)
}

// f is called for objects and forwarded addresses, in turn, of each format of oops; of a method not for the first one.
func TestReplaceInObjects(t *testing.T) {
	for _, sp := range []api.Space{api.Eden, api.Past, api.Future, api.Old, api.Pins} {
		for _, f := range []api.Format{api.FormatPointers, api.FormatWeak, api.FormatEphemeron, api.FormatMethod} {
			z := api.Sizes{Eden: 64, Survivor: 64, Bound: 64, Pins: 64}
			h := sized(t, z)
			made := sp
			if sp == api.Past {
				made = api.Future
			}
			var o api.Oop
			skip := 0
			if f == api.FormatMethod {
				o, skip = allocMethod(t, h, made, 9, 11), 1
			} else {
				o = alloc(t, h, made, f, 9)
			}
			if sp == api.Past {
				h.Flip()
			}
			a, b := alloc(t, h, api.Eden, api.FormatPointers, 0), alloc(t, h, api.Old, api.FormatPointers, 0)
			forwarded, freed := alloc(t, h, api.Eden, api.FormatPointers, 0), alloc(t, h, api.Eden, api.FormatPointers, 0)
			for i, v := range []api.Oop{a, 9, forwarded, 0, b, freed, a, 10, o} {
				succeeds(t, h.SetSlot(o, i+skip, v))
			}
			succeeds(t, h.Forward(forwarded, b))
			succeeds(t, h.Free(freed))
			notedBefore, bytes := noted(h), bytesOf(t, h, o)
			n := 0
			c := &calls{f: func(v api.Oop) api.Oop { n++; return []api.Oop{0, 3, 24, a, math.MaxUint64, 8}[n%6] }}
			succeeds(t, h.Replace(o, c.call))
			sameList(t, "called for", c.seen, []api.Oop{a, forwarded, b, a, o})
			want := []api.Oop{3, 9, 24, 0, a, freed, math.MaxUint64, 10, 8}
			if f == api.FormatMethod {
				want = append([]api.Oop{73}, want...)
			}
			sameList(t, "replaced", oopsOf(t, h, o), want)
			sameList(t, "noted", noted(h), notedBefore)
			same(t, "bytes", string(bytesOf(t, h, o)), string(bytes))
			// Of what it has stored only what is an object is replaced again.
			c = &calls{f: func(v api.Oop) api.Oop { return v }}
			succeeds(t, h.Replace(o, c.call))
			sameList(t, "called for", c.seen, []api.Oop{a})
			sameList(t, "replaced by itself", oopsOf(t, h, o), want)
		}
	}
}

// Words and bytes are no oops; what has no oops has nothing to be replaced.
func TestReplaceWhereThereAreNoOops(t *testing.T) {
	h := made(t)
	a := alloc(t, h, api.Eden, api.FormatPointers, 0)
	w := alloc(t, h, api.Old, api.FormatWords, 1)
	succeeds(t, h.SetWord(w, 0, uint64(a)))
	b := alloc(t, h, api.Old, api.FormatBytes, 8)
	succeeds(t, h.SetByte(b, 0, byte(a)))
	m := allocMethod(t, h, api.Old, 0, 8)
	succeeds(t, h.SetByte(m, 0, byte(a)))
	for _, o := range []api.Oop{a, w, b, m} {
		succeeds(t, h.Replace(o, func(v api.Oop) api.Oop { t.Error("called for", v); return 9 }))
	}
	same(t, "word", wordsOf(t, h, w)[0], uint64(a))
	sameList(t, "oops", oopsOf(t, h, m), []api.Oop{1})
}

// For 0: of all roots, in their order.
func TestReplaceInRoots(t *testing.T) {
	h := made(t)
	var l []api.Oop
	for range 9 {
		l = append(l, alloc(t, h, api.Eden, api.FormatPointers, 1))
	}
	old := alloc(t, h, api.Old, api.FormatPointers, 1)
	succeeds(t, h.SetSlot(old, 0, l[0]))
	for i, at := range []int{0, 63} {
		succeeds(t, h.SetSpecial(at, l[i]))
	}
	succeeds(t, h.SetSpecial(5, 9))
	for i, at := range []int{0, 4095} {
		succeeds(t, h.SetClassAt(at, l[2+i]))
	}
	for _, v := range []api.Oop{l[4], 10, l[5], l[6]} {
		succeeds(t, second(h.Push(v)))
	}
	for _, o := range []api.Oop{l[7], l[0], l[8]} {
		succeeds(t, h.Enqueue(o))
	}
	succeeds(t, h.Forward(l[5], l[6]))
	succeeds(t, h.Forward(l[8], l[7]))
	succeeds(t, h.Free(l[6]))
	before := noted(h)
	n := 0
	c := &calls{f: func(v api.Oop) api.Oop {
		n++
		if n == 5 || n == 8 {
			return v
		}
		return api.Oop(8*n + 3)
	}}
	succeeds(t, h.Replace(0, c.call))
	sameList(t, "called for", c.seen, []api.Oop{l[0], l[1], l[2], l[3], l[4], l[5], l[7], l[0], l[8]})
	want := make([]api.Oop, 64+4096)
	want[0], want[63], want[5], want[64], want[64+4095] = 11, 19, 9, 27, 35
	want = append(want, l[4], 10, 51, l[6], 59, l[0], 75)
	sameList(t, "roots", slices.Collect(h.Roots()), want)
	sameList(t, "an object", oopsOf(t, h, old), []api.Oop{l[0]})
	sameList(t, "noted", noted(h), before)
	for _, v := range []api.Oop{59, l[0], 75, 0} {
		same(t, "queue", h.Dequeue(), v)
	}
	v, _ := h.Pop()
	same(t, "stack", v, l[6])
}

// f may do what a collector does: what it copies and forwards is seen by the calls behind it, and nothing is noted.
func TestReplaceWithCopies(t *testing.T) {
	h := made(t)
	a, b := alloc(t, h, api.Eden, api.FormatPointers, 2), alloc(t, h, api.Eden, api.FormatPointers, 1)
	succeeds(t, h.SetSlot(a, 0, b))
	succeeds(t, h.SetSlot(a, 1, a))
	succeeds(t, h.SetSlot(b, 0, a))
	for _, v := range []api.Oop{a, b, a} {
		succeeds(t, second(h.Push(v)))
	}
	var queue []api.Oop
	copied := func(v api.Oop) api.Oop {
		if to, is := h.Forwarded(v); is {
			return to
		}
		if h.Space(v) != api.Eden {
			return v
		}
		sp := []api.Space{api.Future, api.Old}[len(queue)]
		to, e := h.Copy(v, sp, 1)
		succeeds(t, e)
		succeeds(t, h.Forward(v, to))
		queue = append(queue, to)
		return to
	}
	succeeds(t, h.Replace(0, copied))
	for i := 0; i < len(queue); i++ {
		succeeds(t, h.Replace(queue[i], copied))
	}
	sameList(t, "copies", queue, []api.Oop{secondAt, oldAt})
	sameNoted(t, "nothing", h)
	succeeds(t, h.Note(oldAt))
	h.Flip()
	sameList(t, "a", oopsOf(t, h, secondAt), []api.Oop{oldAt, secondAt})
	sameList(t, "b", oopsOf(t, h, oldAt), []api.Oop{secondAt})
	for i, want := range []api.Oop{secondAt, oldAt, secondAt} {
		v, _ := h.Root(i)
		same(t, "root", v, want)
	}
	same(t, "space", h.Space(secondAt), api.Past)
	same(t, "age", head(t, h, secondAt).Age, 1)
	sameNoted(t, "b", h, oldAt)
}

// Whatever f does to the heap: Replace ends, and no other object is written to.
func TestReplaceWhereTheObjectGoes(t *testing.T) {
	for name, f := range map[string]func(h *heap.Heap, o, v api.Oop){
		"freed":     func(h *heap.Heap, o, v api.Oop) { h.Free(o) },
		"forwarded": func(h *heap.Heap, o, v api.Oop) { h.Forward(o, v) },
		"flipped":   func(h *heap.Heap, o, v api.Oop) { h.Flip() },
		"slid":      func(h *heap.Heap, o, v api.Oop) { h.Slide() },
		"made again": func(h *heap.Heap, o, v api.Oop) {
			h.Free(o)
			h.AllocMethod(api.Pins, 1, 0, 3)
			h.AllocMethod(api.Pins, 1, 1, 0)
		},
		"popped": func(h *heap.Heap, o, v api.Oop) { h.Pop(); h.Dequeue() },
		"pushed": func(h *heap.Heap, o, v api.Oop) { h.Push(v); h.Enqueue(v) },
	} {
		for _, sp := range []api.Space{api.Eden, api.Future, api.Old, api.Pins} {
			for _, roots := range []bool{false, true} {
				z := small()
				h := sized(t, z)
				alloc(t, h, sp, api.FormatPointers, 0)
				v := alloc(t, h, api.Old, api.FormatPointers, 0)
				o := alloc(t, h, sp, api.FormatPointers, 4)
				for i := range 4 {
					succeeds(t, h.SetSlot(o, i, v))
					succeeds(t, second(h.Push(v)))
					succeeds(t, h.Enqueue(o))
				}
				succeeds(t, h.Free(walked(h, sp)[0]))
				scanned := o
				if roots {
					scanned = 0
				}
				called := 0
				h.Replace(scanned, func(w api.Oop) api.Oop {
					called++
					f(h, o, v)
					return math.MaxUint64
				})
				if called < 1 || called > 8+4160 {
					t.Error(name, called)
				}
				pictureOf(t, h, z)
			}
		}
	}
}

// Flip empties eden and past, and past is what future was.
func TestFlip(t *testing.T) {
	h := made(t)
	var halves []api.Oop
	for i := range 6 {
		half := []api.Oop{secondAt, firstAt}[i%2]
		eden, future := alloc(t, h, api.Eden, api.FormatPointers, 2), alloc(t, h, api.Future, api.FormatPointers, 1)
		same(t, "eden", eden, edenAt)
		same(t, "future", future, half)
		succeeds(t, h.SetSlot(future, 0, api.Oop(8*i+1)))
		h.Hash(future)
		h.Mark(future, true)
		before := look(t, h, future)
		halves = append(halves, future)
		if i > 0 {
			same(t, "past", h.Space(halves[i-1]), api.Past)
			same(t, "used", h.Used(api.Past), 3)
		}
		h.Flip()
		sameLook(t, "kept", look(t, h, future), before)
		same(t, "space", h.Space(future), api.Past)
		same(t, "eden", h.Is(eden), false)
		sameList(t, "eden", walked(h, api.Eden), nil)
		sameList(t, "past", walked(h, api.Past), []api.Oop{future})
		sameList(t, "future", walked(h, api.Future), nil)
		if i > 0 {
			same(t, "what was past", h.Is(halves[i-1]), false)
		}
		for sp, room := range map[api.Space]int{api.Eden: 64, api.Past: 13, api.Future: 16, api.Old: 160, api.Pins: 16} {
			same(t, "room", h.Room(sp), room)
		}
	}
}

// Flip leaves alone what is old, roots, and references, even to what is gone.
func TestFlipLeavesTheRest(t *testing.T) {
	h := made(t)
	eden, past := alloc(t, h, api.Future, api.FormatPointers, 0), api.Oop(0)
	h.Flip()
	eden, past = alloc(t, h, api.Eden, api.FormatPointers, 1), eden
	old, pin := alloc(t, h, api.Old, api.FormatPointers, 2), alloc(t, h, api.Pins, api.FormatPointers, 2)
	future := alloc(t, h, api.Future, api.FormatPointers, 2)
	for _, o := range []api.Oop{old, pin, future} {
		succeeds(t, h.SetSlot(o, 0, eden))
		succeeds(t, h.SetSlot(o, 1, past))
	}
	succeeds(t, h.SetSpecial(3, eden))
	succeeds(t, h.SetClassAt(3, past))
	succeeds(t, second(h.Push(eden)))
	succeeds(t, h.Enqueue(past))
	h.Hash(old)
	roots := slices.Collect(h.Roots())
	h.Flip()
	sameList(t, "roots", slices.Collect(h.Roots()), roots)
	for _, o := range []api.Oop{old, pin, future} {
		sameList(t, "oops", oopsOf(t, h, o), []api.Oop{eden, past})
	}
	same(t, "given", h.Given(), 1)
	same(t, "stored", h.SetSlot(old, 0, eden), api.ErrArg)
	same(t, "queue", h.Dequeue(), past)
}
