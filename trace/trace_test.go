package trace_test

import (
	"maps"
	"slices"
	"testing"

	"palaver/api"
	"palaver/heap"
	"palaver/trace"
)

// set is a set of objects of a heap, by their addresses.
type set struct {
	heap    *heap.Heap
	objects map[api.Oop]int
}

func (s set) Add(o api.Oop) bool {
	if !s.heap.Is(o) || s.Has(o) {
		return false
	}
	s.objects[o] = len(s.objects)
	return true
}

func (s set) Has(o api.Oop) bool {
	_, is := s.objects[o]
	return is
}

func made(t *testing.T) *heap.Heap {
	t.Helper()
	h, e := heap.New(api.Sizes{Eden: 64, Survivor: 16, Bound: 64})
	if e != api.OK {
		t.Fatal(e)
	}
	return h
}

func alloc(t *testing.T, h *heap.Heap, f api.Format, oops ...api.Oop) api.Oop {
	t.Helper()
	o, e := h.Alloc(api.Eden, 5, f, len(oops))
	if e != api.OK {
		t.Fatal(e)
	}
	for i, v := range oops {
		if e := h.SetSlot(o, i, v); e != api.OK {
			t.Fatal(e)
		}
	}
	return o
}

// scattered is a heap with an object in each space; these, in the order of the spaces.
func scattered(t *testing.T) (*heap.Heap, []api.Oop) {
	t.Helper()
	h, e := heap.New(api.Sizes{Eden: 64, Survivor: 16, Bound: 64, Pins: 16})
	if e != api.OK {
		t.Fatal(e)
	}
	var l []api.Oop
	for _, sp := range []api.Space{api.Future, api.Eden, api.Future, api.Old, api.Pins} {
		if len(l) == 1 {
			h.Flip()
		}
		o, e := h.Alloc(sp, 5, api.FormatWords, 1)
		if e != api.OK {
			t.Fatal(e)
		}
		l = append(l, o)
	}
	return h, []api.Oop{l[1], l[0], l[2], l[3], l[4]}
}

func TestAll(t *testing.T) {
	h, want := scattered(t)
	if got := slices.Collect(trace.All(h)); !slices.Equal(got, want) {
		t.Errorf("%v, not %v", got, want)
	}
	late, _ := h.Alloc(api.Eden, 5, api.FormatWords, 0)
	want = slices.Insert(want, 1, late)
	all := trace.All(h)
	for stop := range len(want) {
		var got []api.Oop
		for o := range all {
			got = append(got, o)
			if len(got) > stop {
				break
			}
		}
		if !slices.Equal(got, want[:stop+1]) {
			t.Errorf("stopped early: %v, not %v", got, want[:stop+1])
		}
	}
	if got := slices.Collect(trace.All(made(t))); len(got) > 0 {
		t.Errorf("an empty heap: %v", got)
	}
}

func TestIsYoung(t *testing.T) {
	h, l := scattered(t)
	for i, o := range l {
		if trace.IsYoung(h, o) != (i < 3) {
			t.Errorf("object %d: %v", i, i >= 3)
		}
	}
	for _, o := range []api.Oop{0, 9, 778, 3, l[0] + 8, 1 << 31} {
		if trace.IsYoung(h, o) {
			t.Errorf("%d is young", o)
		}
	}
}

func TestOops(t *testing.T) {
	h := made(t)
	a := alloc(t, h, api.FormatPointers)
	b := alloc(t, h, api.FormatPointers, a, 9, 0, a)
	w, _ := h.Alloc(api.Eden, 5, api.FormatWords, 3)
	m, _ := h.AllocMethod(api.Eden, 5, 1, 9)
	for o, want := range map[api.Oop][]api.Oop{
		a: nil,
		b: {a, 9, 0, a},
		w: nil,
		m: {9, 0},
		0: nil, 9: nil, a + 8: nil, // no objects
	} {
		for range 2 {
			var got []api.Oop
			for i, v := range trace.Oops(h, o) {
				if i != len(got) {
					t.Errorf("index %d behind %d oops", i, len(got))
				}
				got = append(got, v)
			}
			if !slices.Equal(got, want) {
				t.Errorf("oops of %d: %v, not %v", o, got, want)
			}
		}
	}
	var got []api.Oop
	for i, v := range trace.Oops(h, b) {
		if i == 2 {
			break
		}
		got = append(got, v)
	}
	if !slices.Equal(got, []api.Oop{a, 9}) {
		t.Errorf("stopped early: %v", got)
	}
}

// The set has what lives, and nothing else; an ephemeron that fires keeps its format, and no object is marked.
func TestLiving(t *testing.T) {
	h := made(t)
	x := alloc(t, h, api.FormatPointers)
	k := alloc(t, h, api.FormatPointers)
	e := alloc(t, h, api.FormatEphemeron, k, k)
	w := alloc(t, h, api.FormatWeak, x, e)
	for _, o := range []api.Oop{w, 9, 0, e} {
		h.Push(o)
	}
	s := set{h, map[api.Oop]int{}}
	living, fired := trace.Living(h, s)
	if !slices.Equal(living, []api.Oop{w, e, k}) || !slices.Equal(fired, []api.Oop{e}) {
		t.Errorf("%v live, %v fire", living, fired)
	}
	if !maps.Equal(s.objects, map[api.Oop]int{w: 0, e: 1, k: 2}) {
		t.Errorf("the set: %v", s.objects)
	}
	for o, f := range map[api.Oop]api.Format{x: api.FormatPointers, k: api.FormatPointers, e: api.FormatEphemeron, w: api.FormatWeak} {
		if head, _ := h.Head(o); head.Format != f || head.Marked {
			t.Errorf("header of %d: %+v", o, head)
		}
	}
}
