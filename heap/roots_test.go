package heap_test

import (
	"math"
	"slices"
	"testing"

	"palaver/api"
)

// Specials and classes: each by itself, at the bounds and beyond.
func TestTablesOfRoots(t *testing.T) {
	h := made(t)
	o := alloc(t, h, api.Eden, api.FormatPointers, 0)
	for name, c := range map[string]struct {
		size int
		get  func(i int) (api.Oop, api.Errno)
		set  func(i int, v api.Oop) api.Errno
	}{"specials": {64, h.Special, h.SetSpecial}, "classes": {4096, h.ClassAt, h.SetClassAt}} {
		for i := range c.size {
			v, e := c.get(i)
			same(t, name, v, 0)
			succeeds(t, e)
			succeeds(t, c.set(i, api.Oop(8*i+1)))
		}
		succeeds(t, c.set(0, o))
		succeeds(t, c.set(c.size-1, o))
		for i := range c.size {
			want := api.Oop(8*i + 1)
			if i == 0 || i == c.size-1 {
				want = o
			}
			v, e := c.get(i)
			same(t, name, v, want)
			succeeds(t, e)
		}
		before := pictureOf(t, h, small())
		for _, i := range []int{-1, -64, math.MinInt, c.size, c.size + 1, 1 << 32, math.MaxInt} {
			v, e := c.get(i)
			same(t, name, v, 0)
			same(t, name, e, api.ErrHeapRoot)
			same(t, name, c.set(i, 9), api.ErrHeapRoot)
			// That there is no such root comes ahead of a value that may not be.
			same(t, name, c.set(i, 3), api.ErrHeapRoot)
		}
		same(t, name, c.set(1, 3), api.ErrArg)
		same(t, name, c.set(1, o+8), api.ErrArg)
		samePicture(t, "after what failed", pictureOf(t, h, small()), before)
		succeeds(t, c.set(0, 0))
		v, _ := c.get(0)
		same(t, name, v, 0)
	}
}

func TestStackOfRoots(t *testing.T) {
	h := made(t)
	a, b := alloc(t, h, api.Eden, api.FormatPointers, 0), alloc(t, h, api.Old, api.FormatPointers, 0)
	values := []api.Oop{a, b, 0, 9, 10, a, 1<<63 | 1}
	for i, v := range values {
		same(t, "depth", h.Depth(), i)
		n, e := h.Push(v)
		same(t, "place", n, i)
		succeeds(t, e)
	}
	same(t, "depth", h.Depth(), 7)
	for i, want := range values {
		v, e := h.Root(i)
		same(t, "root", v, want)
		succeeds(t, e)
	}
	before := pictureOf(t, h, small())
	for _, i := range []int{-1, math.MinInt, 7, 8, 4095, 4096, math.MaxInt} {
		v, e := h.Root(i)
		same(t, "root", v, 0)
		same(t, "root", e, api.ErrHeapRoot)
		same(t, "root", h.SetRoot(i, 9), api.ErrHeapRoot)
		same(t, "root", h.SetRoot(i, 3), api.ErrHeapRoot)
	}
	for _, v := range []api.Oop{3, a + 8, 8, math.MaxUint64} {
		n, e := h.Push(v)
		same(t, "place", n, 0)
		same(t, "push", e, api.ErrArg)
		same(t, "root", h.SetRoot(0, v), api.ErrArg)
	}
	samePicture(t, "after what failed", pictureOf(t, h, small()), before)
	succeeds(t, h.SetRoot(6, b))
	succeeds(t, h.SetRoot(0, 17))
	values[6], values[0] = b, 17
	for i := 6; i >= 0; i-- {
		v, e := h.Pop()
		same(t, "pop", v, values[i])
		succeeds(t, e)
		same(t, "depth", h.Depth(), i)
		same(t, "popped", second(h.Root(i)), api.ErrHeapRoot)
	}
	for range 2 {
		v, e := h.Pop()
		same(t, "pop", v, 0)
		same(t, "pop", e, api.ErrHeapRoot)
	}
	n, e := h.Push(b)
	same(t, "place", n, 0)
	succeeds(t, e)
	v, _ := h.Root(0)
	same(t, "root", v, b)
}

// 4096 roots on the stack, and one more.
func TestFullStackOfRoots(t *testing.T) {
	h := made(t)
	for i := range 4096 {
		n, e := h.Push(api.Oop(8*i + 1))
		if n != i || e != api.OK {
			t.Fatal(i, n, e)
		}
	}
	for _, v := range []api.Oop{9, 0, 3, 24} {
		n, e := h.Push(v)
		same(t, "place", n, 0)
		same(t, "push", e, api.ErrHeapRoot)
	}
	same(t, "depth", h.Depth(), 4096)
	v, e := h.Root(4095)
	same(t, "last", v, 8*4095+1)
	succeeds(t, e)
	v, _ = h.Pop()
	same(t, "last", v, 8*4095+1)
	n, e := h.Push(17)
	same(t, "place", n, 4095)
	succeeds(t, e)
}

func TestQueue(t *testing.T) {
	h := made(t)
	same(t, "none", h.Dequeue(), 0)
	var l []api.Oop
	for _, sp := range []api.Space{api.Eden, api.Future, api.Old, api.Pins} {
		l = append(l, alloc(t, h, sp, api.FormatPointers, 0))
	}
	l = append(l, l[0], l[2], l[2])
	for i, o := range l {
		same(t, "queued", h.Queued(), i)
		succeeds(t, h.Enqueue(o))
	}
	for i, o := range l[:4] {
		same(t, "first", h.Dequeue(), o)
		same(t, "queued", h.Queued(), len(l)-i-1)
	}
	succeeds(t, h.Enqueue(l[3]))
	for _, o := range append(l[4:], l[3], 0, 0) {
		same(t, "first", h.Dequeue(), o)
	}
	same(t, "queued", h.Queued(), 0)
	same(t, "noted", len(noted(h)), 0)
}

// The queue has no bound: it takes more than there may be on the stack.
func TestLongQueue(t *testing.T) {
	h := made(t)
	a, b := alloc(t, h, api.Eden, api.FormatPointers, 0), alloc(t, h, api.Eden, api.FormatPointers, 0)
	for range 50000 {
		succeeds(t, h.Enqueue(a))
		succeeds(t, h.Enqueue(b))
	}
	for i := range 99999 {
		if o := h.Dequeue(); o != []api.Oop{a, b}[i%2] {
			t.Fatal(i, o)
		}
	}
	same(t, "queued", h.Queued(), 1)
	same(t, "roots", len(slices.Collect(h.Roots())), 64+4096+1)
}

func TestRootsInTheirOrder(t *testing.T) {
	h := made(t)
	roots := h.Roots()
	want := make([]api.Oop, 64+4096)
	sameList(t, "roots", slices.Collect(roots), want)
	for i := range 64 {
		want[i] = api.Oop(8*i + 1)
		succeeds(t, h.SetSpecial(i, want[i]))
	}
	for i := range 4096 {
		want[64+i] = api.Oop(8*i + 2)
		succeeds(t, h.SetClassAt(i, want[64+i]))
	}
	a, b := alloc(t, h, api.Eden, api.FormatPointers, 0), alloc(t, h, api.Old, api.FormatPointers, 0)
	for _, v := range []api.Oop{a, 9, 0, a} {
		succeeds(t, second(h.Push(v)))
	}
	for _, o := range []api.Oop{b, a, b} {
		succeeds(t, h.Enqueue(o))
	}
	want = append(want, a, 9, 0, a, b, a, b)
	// What was made before yields what is there by now, as often as it is gone through.
	sameList(t, "roots", slices.Collect(roots), want)
	sameList(t, "roots", slices.Collect(roots), want)
	h.Pop()
	h.Dequeue()
	sameList(t, "roots", slices.Collect(roots), slices.Concat(want[:64+4096], []api.Oop{a, 9, 0, a, b}))
}

// Gone through as far as each of the lists of roots, and one within another.
func TestRootsLeftEarly(t *testing.T) {
	h := made(t)
	a := alloc(t, h, api.Eden, api.FormatPointers, 0)
	for i := range 3 {
		succeeds(t, h.SetSpecial(i, api.Oop(8*i+1)))
		succeeds(t, second(h.Push(api.Oop(8*i+2))))
		succeeds(t, h.Enqueue(a))
	}
	all := slices.Collect(h.Roots())
	same(t, "roots", len(all), 64+4096+3+3)
	for _, n := range []int{1, 2, 64, 65, 4000, 4160, 4161, 4163, 4164, 4166} {
		var l []api.Oop
		for v := range h.Roots() {
			l = append(l, v)
			if len(l) == n {
				break
			}
		}
		sameList(t, "left early", l, all[:n])
	}
	n := 0
	for v := range h.Roots() {
		if v == 0 {
			break
		}
		for w := range h.Roots() {
			if w == 0 {
				break
			}
			n++
		}
	}
	same(t, "nested", n, 9)
}
