package heap_test

import (
	"iter"
	"reflect"
	"slices"
	"testing"

	"palaver/api"
	"palaver/heap"
)

// The exact signatures: a caller may keep these functions in variables.
var (
	_ func(api.Sizes) (*heap.Heap, api.Errno)                                 = heap.New
	_ func(*heap.Heap, api.Space, int, api.Format, int) (api.Oop, api.Errno)  = (*heap.Heap).Alloc
	_ func(*heap.Heap, api.Space, int, int, int) (api.Oop, api.Errno)         = (*heap.Heap).AllocMethod
	_ func(*heap.Heap, api.Oop) bool                                          = (*heap.Heap).Is
	_ func(*heap.Heap, api.Oop) (api.Header, api.Errno)                       = (*heap.Heap).Head
	_ func(*heap.Heap, api.Oop) api.Space                                     = (*heap.Heap).Space
	_ func(*heap.Heap, api.Oop) (int, api.Errno)                              = (*heap.Heap).Oops
	_ func(*heap.Heap, api.Oop) (int, api.Errno)                              = (*heap.Heap).Bytes
	_ func(*heap.Heap, api.Oop, int) (api.Oop, api.Errno)                     = (*heap.Heap).Slot
	_ func(*heap.Heap, api.Oop, int, api.Oop) api.Errno                       = (*heap.Heap).SetSlot
	_ func(*heap.Heap, api.Oop, int) (byte, api.Errno)                        = (*heap.Heap).Byte
	_ func(*heap.Heap, api.Oop, int, byte) api.Errno                          = (*heap.Heap).SetByte
	_ func(*heap.Heap, api.Oop, int) (uint64, api.Errno)                      = (*heap.Heap).Word
	_ func(*heap.Heap, api.Oop, int, uint64) api.Errno                        = (*heap.Heap).SetWord
	_ func(*heap.Heap, api.Oop, int) api.Errno                                = (*heap.Heap).SetClass
	_ func(*heap.Heap, api.Oop, api.Format) api.Errno                         = (*heap.Heap).SetFormat
	_ func(*heap.Heap, api.Oop) (int, api.Errno)                              = (*heap.Heap).Hash
	_ func(*heap.Heap, api.Space) int                                         = (*heap.Heap).Room
	_ func(*heap.Heap, api.Space) int                                         = (*heap.Heap).Used
	_ func(*heap.Heap, api.Space) iter.Seq[api.Oop]                           = (*heap.Heap).Walk
	_ func(*heap.Heap, int) (api.Oop, api.Errno)                              = (*heap.Heap).Special
	_ func(*heap.Heap, int, api.Oop) api.Errno                                = (*heap.Heap).SetSpecial
	_ func(*heap.Heap, int) (api.Oop, api.Errno)                              = (*heap.Heap).ClassAt
	_ func(*heap.Heap, int, api.Oop) api.Errno                                = (*heap.Heap).SetClassAt
	_ func(*heap.Heap, api.Oop) (int, api.Errno)                              = (*heap.Heap).Push
	_ func(*heap.Heap) (api.Oop, api.Errno)                                   = (*heap.Heap).Pop
	_ func(*heap.Heap, int) (api.Oop, api.Errno)                              = (*heap.Heap).Root
	_ func(*heap.Heap, int, api.Oop) api.Errno                                = (*heap.Heap).SetRoot
	_ func(*heap.Heap) int                                                    = (*heap.Heap).Depth
	_ func(*heap.Heap, api.Oop) api.Errno                                     = (*heap.Heap).Enqueue
	_ func(*heap.Heap) api.Oop                                                = (*heap.Heap).Dequeue
	_ func(*heap.Heap) int                                                    = (*heap.Heap).Queued
	_ func(*heap.Heap) iter.Seq[api.Oop]                                      = (*heap.Heap).Roots
	_ func(*heap.Heap) iter.Seq[api.Oop]                                      = (*heap.Heap).Noted
	_ func(*heap.Heap, api.Oop) api.Errno                                     = (*heap.Heap).Note
	_ func(*heap.Heap, api.Oop, api.Space, int) (api.Oop, api.Errno)          = (*heap.Heap).Copy
	_ func(*heap.Heap, api.Oop, api.Oop) api.Errno                            = (*heap.Heap).Forward
	_ func(*heap.Heap, api.Oop) (api.Oop, bool)                               = (*heap.Heap).Forwarded
	_ func(*heap.Heap, api.Oop, func(api.Oop) api.Oop) api.Errno              = (*heap.Heap).Replace
	_ func(*heap.Heap)                                                        = (*heap.Heap).Flip
	_ func(*heap.Heap, api.Oop, bool) (bool, api.Errno)                       = (*heap.Heap).Mark
	_ func(*heap.Heap, api.Oop) api.Errno                                     = (*heap.Heap).Free
	_ func(*heap.Heap) int                                                    = (*heap.Heap).Slide
	_ func(*heap.Heap) int                                                    = (*heap.Heap).Given
	_ func(*heap.Heap, int) api.Errno                                         = (*heap.Heap).SetGiven
	_ func(*heap.Heap, api.Oop) int                                           = (*heap.Heap).Place
	_ func(h *heap.Heap, at int, x api.Header, lits int) (api.Oop, api.Errno) = (*heap.Heap).Remake
)

// The sizes of most tests, and where the spaces begin with them.
const (
	edenAt   = 16
	firstAt  = 528 // the half that is past at first
	secondAt = 656 // the half that is future at first
	oldAt    = 784
	pinsAt   = 2064
	endAt    = 2192
)

func small() api.Sizes {
	return api.Sizes{Eden: 64, Survivor: 16, Bound: 64, Pins: 16}
}

var allSpaces = []api.Space{api.Eden, api.Past, api.Future, api.Old, api.Pins}

func sized(t *testing.T, z api.Sizes) *heap.Heap {
	t.Helper()
	h, e := heap.New(z)
	if h == nil || e != api.OK {
		t.Fatalf("New(%+v): %v %d", z, h, e)
	}
	return h
}

func made(t *testing.T) *heap.Heap {
	t.Helper()
	return sized(t, small())
}

func alloc(t *testing.T, h *heap.Heap, sp api.Space, f api.Format, n int) api.Oop {
	t.Helper()
	o, e := h.Alloc(sp, 5, f, n)
	if o == 0 || e != api.OK {
		t.Fatalf("Alloc(%d, 5, %d, %d): %d %d", sp, f, n, o, e)
	}
	return o
}

func allocMethod(t *testing.T, h *heap.Heap, sp api.Space, literals, bytes int) api.Oop {
	t.Helper()
	o, e := h.AllocMethod(sp, 7, literals, bytes)
	if o == 0 || e != api.OK {
		t.Fatalf("AllocMethod(%d, 7, %d, %d): %d %d", sp, literals, bytes, o, e)
	}
	return o
}

// inPast makes an object of pointers in past. All that is in eden and past is gone then.
func inPast(t *testing.T, h *heap.Heap, n int) api.Oop {
	t.Helper()
	o := alloc(t, h, api.Future, api.FormatPointers, n)
	h.Flip()
	return o
}

func succeeds(t *testing.T, e api.Errno) {
	t.Helper()
	if e != api.OK {
		t.Fatalf("error %d", e)
	}
}

func same[T comparable](t *testing.T, what string, got, want T) {
	t.Helper()
	if got != want {
		t.Errorf("%s: %v, not %v", what, got, want)
	}
}

func sameList(t *testing.T, what string, got, want []api.Oop) {
	t.Helper()
	if !slices.Equal(got, want) {
		t.Errorf("%s: %v, not %v", what, got, want)
	}
}

func noted(h *heap.Heap) []api.Oop { return slices.Collect(h.Noted()) }

func walked(h *heap.Heap, sp api.Space) []api.Oop { return slices.Collect(h.Walk(sp)) }

func head(t *testing.T, h *heap.Heap, o api.Oop) api.Header {
	t.Helper()
	x, e := h.Head(o)
	if e != api.OK {
		t.Fatalf("Head(%d): %d", o, e)
	}
	return x
}

// oopsOf are all oops of an object.
func oopsOf(t *testing.T, h *heap.Heap, o api.Oop) []api.Oop {
	t.Helper()
	n, e := h.Oops(o)
	if e != api.OK {
		t.Fatalf("Oops(%d): %d", o, e)
	}
	var l []api.Oop
	for i := range n {
		v, e := h.Slot(o, i)
		if e != api.OK {
			t.Fatalf("Slot(%d, %d): %d", o, i, e)
		}
		l = append(l, v)
	}
	return l
}

// bytesOf are all bytes of an object.
func bytesOf(t *testing.T, h *heap.Heap, o api.Oop) []byte {
	t.Helper()
	n, e := h.Bytes(o)
	if e != api.OK {
		t.Fatalf("Bytes(%d): %d", o, e)
	}
	var l []byte
	for i := range n {
		b, e := h.Byte(o, i)
		if e != api.OK {
			t.Fatalf("Byte(%d, %d): %d", o, i, e)
		}
		l = append(l, b)
	}
	return l
}

// wordsOf are all words of an object of words.
func wordsOf(t *testing.T, h *heap.Heap, o api.Oop) []uint64 {
	t.Helper()
	x := head(t, h, o)
	if x.Format != api.FormatWords {
		return nil
	}
	var l []uint64
	for i := range x.Slots {
		w, e := h.Word(o, i)
		if e != api.OK {
			t.Fatalf("Word(%d, %d): %d", o, i, e)
		}
		l = append(l, w)
	}
	return l
}

// seen is an object as the heap shows it.
type seen struct {
	Oop   api.Oop
	Space api.Space
	Place int
	Head  api.Header
	Oops  []api.Oop
	Bytes []byte
	Words []uint64
}

// link is a forwarded address.
type link struct{ From, To api.Oop }

// root is a root with its place among all of them.
type root struct {
	At int
	V  api.Oop
}

// picture is all that a heap of a small memory shows.
type picture struct {
	Objects  []seen
	Forwards []link
	Rooms    [8]int
	Useds    [8]int
	Walks    [8][]api.Oop
	Noted    []api.Oop
	Roots    []root // those that are not 0
	RootsAll int
	Depth    int
	Queued   int
	Given    int
}

// pictureOf looks at each word of the memory, and at some beyond.
func pictureOf(t *testing.T, h *heap.Heap, z api.Sizes) picture {
	t.Helper()
	p := picture{Noted: noted(h), Depth: h.Depth(), Queued: h.Queued(), Given: h.Given()}
	for v := range h.Roots() {
		if v != 0 {
			p.Roots = append(p.Roots, root{p.RootsAll, v})
		}
		p.RootsAll++
	}
	for sp := range api.Space(8) {
		p.Rooms[sp], p.Useds[sp], p.Walks[sp] = h.Room(sp), h.Used(sp), walked(h, sp)
	}
	end := 2 + 2*z.Eden + 4*z.Survivor + z.Bound + z.Pins
	for at := range end + 70 {
		o := api.Oop(8 * at)
		if to, is := h.Forwarded(o); is || to != 0 {
			p.Forwards = append(p.Forwards, link{o, to})
		}
		if h.Is(o) {
			p.Objects = append(p.Objects, seen{o, h.Space(o), h.Place(o), head(t, h, o), oopsOf(t, h, o), bytesOf(t, h, o), wordsOf(t, h, o)})
		} else if h.Space(o) != 0 || h.Place(o) != -1 {
			t.Errorf("%d is no object: space %d, place %d", o, h.Space(o), h.Place(o))
		}
	}
	return p
}

// samePicture tells what differs.
func samePicture(t *testing.T, what string, got, want picture) {
	t.Helper()
	a, b := reflect.ValueOf(got), reflect.ValueOf(want)
	for i := range a.NumField() {
		if x, y := a.Field(i).Interface(), b.Field(i).Interface(); !reflect.DeepEqual(x, y) {
			t.Errorf("%s: %s:\n%+v\nnot\n%+v", what, a.Type().Field(i).Name, x, y)
		}
	}
}
