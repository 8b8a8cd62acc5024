package heap_test

import (
	"fmt"
	"math"
	"slices"
	"testing"

	"palaver/api"
	"palaver/heap"
)

func TestErrorsHaveTheirNumbers(t *testing.T) {
	h := made(t)
	_, config := heap.New(api.Sizes{})
	_, arg := h.Alloc(api.Past, 0, api.FormatWords, 0)
	_, full := h.Alloc(api.Eden, 0, api.FormatWords, 63)
	_, oop := h.Head(0)
	o := alloc(t, h, api.Eden, api.FormatPointers, 0)
	_, index := h.Slot(o, 0)
	_, kind := h.Word(o, 0)
	_, root := h.Pop()
	for i, want := range []api.Errno{1, 40, 41, 42, 43, 44, 45} {
		same(t, "error", []api.Errno{arg, config, full, oop, index, kind, root}[i], want)
	}
}

func TestSizesAtTheirBounds(t *testing.T) {
	small := api.Sizes{Eden: 64, Survivor: 16, Bound: 64}
	great := api.Sizes{Eden: 65536, Survivor: 65536, Bound: 1048576, Pins: 65536, Tenure: 15}
	for _, z := range []api.Sizes{
		small, great,
		{Eden: 64, Survivor: 64, Bound: 64, Pins: 1, Tenure: 1},
		{Eden: 65536, Survivor: 16, Bound: 1048576},
	} {
		sized(t, z)
	}
	for _, c := range []struct {
		good api.Sizes
		set  func(z *api.Sizes, n int)
		bad  []int
	}{
		{small, func(z *api.Sizes, n int) { z.Eden = n }, []int{63, 16, 0, -1, -64, math.MinInt, 65537, math.MaxInt}},
		{small, func(z *api.Sizes, n int) { z.Survivor = n }, []int{15, 0, -1, -16, math.MinInt, 65, math.MaxInt}},
		{small, func(z *api.Sizes, n int) { z.Bound = n }, []int{63, 0, -1, math.MinInt, 1048577, math.MaxInt}},
		{small, func(z *api.Sizes, n int) { z.Pins = n }, []int{-1, math.MinInt, 65537, math.MaxInt}},
		{small, func(z *api.Sizes, n int) { z.Tenure = n }, []int{-1, math.MinInt, 16, math.MaxInt}},
		{great, func(z *api.Sizes, n int) { z.Survivor = n }, []int{65537}},
		{great, func(z *api.Sizes, n int) { z.Eden = n }, []int{65537, 65535}},
	} {
		for _, n := range c.bad {
			z := c.good
			c.set(&z, n)
			if h, e := heap.New(z); h != nil || e != api.ErrHeapConfig {
				t.Errorf("New(%+v): %v %d", z, h, e)
			}
		}
	}
}

func TestNewHeapHasNothing(t *testing.T) {
	h := made(t)
	want := picture{RootsAll: 64 + 4096}
	for i, n := range []int{64, 16, 16, 160, 16} {
		want.Rooms[i+1] = n
	}
	samePicture(t, "new", pictureOf(t, h, small()), want)
}

// The spaces lie one behind the other, from word 2 on, and have the words that the sizes give.
func TestPlacesOfTheSpaces(t *testing.T) {
	for _, z := range []api.Sizes{
		small(),
		{Eden: 65, Survivor: 17, Bound: 71, Pins: 2},
		{Eden: 65536, Survivor: 65536, Bound: 1048576, Pins: 65536},
		{Eden: 100, Survivor: 100, Bound: 64},
	} {
		h := sized(t, z)
		at := 2
		for _, c := range []struct {
			sp   api.Space
			size int
		}{{api.Eden, z.Eden}, {api.Past, z.Survivor}, {api.Future, z.Survivor}, {api.Old, z.Bound + z.Eden + 2*z.Survivor}, {api.Pins, z.Pins}} {
			same(t, "room", h.Room(c.sp), c.size)
			same(t, "used", h.Used(c.sp), 0)
			if c.sp != api.Past && c.size > 0 {
				o := alloc(t, h, c.sp, api.FormatPointers, 0)
				same(t, "the first object", o, api.Oop(8*at))
				same(t, "space", h.Space(o), c.sp)
				// The last word of a space is its own, too.
				if n := min(c.size-4, 65536); n > 0 {
					last := alloc(t, h, c.sp, api.FormatWords, n)
					same(t, "space", h.Space(last), c.sp)
				}
			}
			at += c.size
		}
	}
}

// An object that fills a space exactly, and one of a word more.
func TestExactFill(t *testing.T) {
	for _, c := range []struct {
		sp   api.Space
		room int
	}{{api.Eden, 64}, {api.Future, 16}, {api.Old, 160}, {api.Pins, 16}} {
		h := made(t)
		if o, e := h.Alloc(c.sp, 1, api.FormatWords, c.room-1); o != 0 || e != api.ErrHeapFull {
			t.Error("a word more:", c, o, e)
		}
		if o, e := h.AllocMethod(c.sp, 1, c.room-3, 1); o != 0 || e != api.ErrHeapFull {
			t.Error("a method of a word more:", c, o, e)
		}
		same(t, "room", h.Room(c.sp), c.room)
		o := alloc(t, h, c.sp, api.FormatWords, c.room-2)
		same(t, "room", h.Room(c.sp), 0)
		same(t, "used", h.Used(c.sp), c.room)
		if o, e := h.Alloc(c.sp, 1, api.FormatPointers, 0); o != 0 || e != api.ErrHeapFull {
			t.Error("full:", c, o, e)
		}
		succeeds(t, h.SetWord(o, c.room-3, math.MaxUint64))

		h = made(t)
		allocMethod(t, h, c.sp, c.room-5, 16)
		same(t, "room", h.Room(c.sp), 0)

		// One word is left: it is too few even for an object without slots.
		h = made(t)
		alloc(t, h, c.sp, api.FormatWords, c.room-3)
		same(t, "room", h.Room(c.sp), 1)
		if o, e := h.Alloc(c.sp, 1, api.FormatPointers, 0); o != 0 || e != api.ErrHeapFull {
			t.Error("one word:", c, o, e)
		}
		same(t, "room", h.Room(c.sp), 1)

		h = made(t)
		alloc(t, h, c.sp, api.FormatWords, c.room-4)
		alloc(t, h, c.sp, api.FormatPointers, 0)
		same(t, "room", h.Room(c.sp), 0)
	}
}

func TestNoPins(t *testing.T) {
	h := sized(t, api.Sizes{Eden: 64, Survivor: 16, Bound: 64})
	same(t, "room", h.Room(api.Pins), 0)
	same(t, "used", h.Used(api.Pins), 0)
	sameList(t, "walk", walked(h, api.Pins), nil)
	o := alloc(t, h, api.Old, api.FormatPointers, 0)
	for _, e := range []api.Errno{
		second(h.Alloc(api.Pins, 1, api.FormatPointers, 0)),
		second(h.AllocMethod(api.Pins, 1, 0, 0)),
		second(h.Copy(o, api.Pins, 0)),
		second(h.Remake(0, api.Header{Format: api.FormatPointers}, 0)),
	} {
		same(t, "error", e, api.ErrHeapFull)
	}
}

// One word of pins is a gap in which nothing fits.
func TestOnePin(t *testing.T) {
	h := sized(t, api.Sizes{Eden: 64, Survivor: 16, Bound: 64, Pins: 1})
	same(t, "room", h.Room(api.Pins), 1)
	same(t, "error", second(h.Alloc(api.Pins, 1, api.FormatPointers, 0)), api.ErrHeapFull)
	same(t, "error", second(h.Remake(0, api.Header{Format: api.FormatPointers}, 0)), api.ErrHeapFull)
}

func second[T any](_ T, e api.Errno) api.Errno { return e }

// Objects of 65536 slots, and of one more.
func TestMaxSlots(t *testing.T) {
	z := api.Sizes{Eden: 65536, Survivor: 65536, Bound: 1048576, Pins: 65536}
	h := sized(t, z)
	for _, f := range []api.Format{api.FormatPointers, api.FormatWeak, api.FormatEphemeron, api.FormatWords} {
		o := alloc(t, h, api.Old, f, 65536)
		same(t, "header", head(t, h, o), api.Header{Class: 5, Format: f, Slots: 65536})
		for _, n := range []int{65537, 65538, 1 << 32, math.MaxInt} {
			if o, e := h.Alloc(api.Old, 5, f, n); o != 0 || e != api.ErrArg {
				t.Error(f, n, o, e)
			}
		}
	}
	for n, spare := range map[int]int{524288: 0, 524287: 1, 524281: 7, 524280: 0} {
		o := alloc(t, h, api.Old, api.FormatBytes, n)
		same(t, "header", head(t, h, o), api.Header{Class: 5, Format: api.FormatBytes, Spare: spare, Slots: (n + 7) / 8})
		succeeds(t, h.SetByte(o, n-1, 200))
		b, e := h.Byte(o, n-1)
		same(t, "last byte", b, 200)
		succeeds(t, e)
		same(t, "error", h.SetByte(o, n, 200), api.ErrHeapIndex)
	}
	for _, n := range []int{524289, 524296, 1 << 40, math.MaxInt - 7, math.MaxInt} {
		if o, e := h.Alloc(api.Old, 5, api.FormatBytes, n); o != 0 || e != api.ErrArg {
			t.Error(n, o, e)
		}
	}
	for _, c := range [][2]int{{65535, 0}, {0, 524280}, {65534, 8}, {65534, 1}, {1000, 8 * 64535}} {
		o := allocMethod(t, h, api.Old, c[0], c[1])
		same(t, "slots", head(t, h, o).Slots, 65536)
	}
	for _, c := range [][2]int{{65535, 1}, {65536, 0}, {0, 524281}, {0, 524289}, {65534, 9}, {1000, 8*64535 + 1}, {math.MaxInt, 0}, {math.MaxInt, math.MaxInt}, {0, math.MaxInt}, {math.MaxInt - 65536, 8 * 65537}, {1 << 62, 1 << 62}} {
		if o, e := h.AllocMethod(api.Old, 5, c[0], c[1]); o != 0 || e != api.ErrArg {
			t.Error(c, o, e)
		}
	}
	// What may be, but has no room in the other spaces.
	for _, sp := range []api.Space{api.Eden, api.Future, api.Pins} {
		same(t, "error", second(h.Alloc(sp, 5, api.FormatWords, 65536)), api.ErrHeapFull)
		same(t, "error", second(h.Alloc(sp, 5, api.FormatWords, 65535)), api.ErrHeapFull)
		o := alloc(t, h, sp, api.FormatWords, 65534)
		succeeds(t, h.SetWord(o, 65533, 7))
		same(t, "room", h.Room(sp), 0)
	}
}

// What is not allowed, in each argument by itself, and together with a full space.
func TestAllocOfWhatMayNotBe(t *testing.T) {
	h := made(t)
	for _, full := range []bool{false, true} {
		if full {
			for _, sp := range []api.Space{api.Eden, api.Future, api.Old, api.Pins} {
				alloc(t, h, sp, api.FormatWords, h.Room(sp)-2)
			}
		}
		before := pictureOf(t, h, small())
		for _, sp := range []api.Space{0, api.Past, 6, 7, 8, 128, 255} {
			same(t, fmt.Sprint("space ", sp), second(h.Alloc(sp, 5, api.FormatPointers, 1)), api.ErrArg)
			same(t, fmt.Sprint("space ", sp), second(h.AllocMethod(sp, 5, 1, 1)), api.ErrArg)
		}
		for _, sp := range []api.Space{api.Eden, api.Future, api.Old, api.Pins} {
			for _, class := range []int{-1, 4096, 4097, 8192, math.MinInt, math.MaxInt, 1 << 32} {
				same(t, fmt.Sprint("class ", class), second(h.Alloc(sp, class, api.FormatPointers, 1)), api.ErrArg)
				same(t, fmt.Sprint("class ", class), second(h.AllocMethod(sp, class, 1, 1)), api.ErrArg)
			}
			for _, f := range []api.Format{0, api.FormatMethod, 7, 8, 9, 255} {
				same(t, fmt.Sprint("format ", f), second(h.Alloc(sp, 5, f, 1)), api.ErrArg)
			}
			for f := api.FormatPointers; f <= api.FormatBytes; f++ {
				for _, n := range []int{-1, -2, -8, math.MinInt, 524289} {
					same(t, fmt.Sprint("size ", n), second(h.Alloc(sp, 5, f, n)), api.ErrArg)
				}
			}
			same(t, "an ephemeron without a key", second(h.Alloc(sp, 5, api.FormatEphemeron, 0)), api.ErrArg)
			for _, n := range []int{-1, -2, math.MinInt} {
				same(t, fmt.Sprint("literals ", n), second(h.AllocMethod(sp, 5, n, 1)), api.ErrArg)
				same(t, fmt.Sprint("literals ", n), second(h.AllocMethod(sp, 5, n, 524288)), api.ErrArg)
				same(t, fmt.Sprint("bytes ", n), second(h.AllocMethod(sp, 5, 1, n)), api.ErrArg)
			}
			if full {
				same(t, "full", second(h.Alloc(sp, 5, api.FormatPointers, 0)), api.ErrHeapFull)
				same(t, "full", second(h.AllocMethod(sp, 5, 0, 0)), api.ErrHeapFull)
			}
		}
		samePicture(t, "after what failed", pictureOf(t, h, small()), before)
	}
}

func TestClassesAtTheirBounds(t *testing.T) {
	h := made(t)
	for _, class := range []int{0, 1, 4094, 4095} {
		o, e := h.Alloc(api.Eden, class, api.FormatPointers, 0)
		succeeds(t, e)
		same(t, "header", head(t, h, o), api.Header{Class: class, Format: api.FormatPointers})
		o, e = h.AllocMethod(api.Eden, class, 0, 0)
		succeeds(t, e)
		same(t, "header", head(t, h, o), api.Header{Class: class, Format: api.FormatMethod, Slots: 1})
	}
}

// Objects of each format, with and without slots, one behind the other in each space.
func TestAllocInEachSpace(t *testing.T) {
	for sp, at := range map[api.Space]api.Oop{api.Eden: edenAt, api.Future: secondAt, api.Old: oldAt, api.Pins: pinsAt} {
		h := made(t)
		succeeds(t, h.SetSpecial(0, 26))
		for _, c := range []struct {
			f api.Format
			n int
		}{{api.FormatPointers, 0}, {api.FormatPointers, 2}, {api.FormatWords, 0}, {api.FormatBytes, 0}, {api.FormatEphemeron, 1}, {api.FormatWords, 1}} {
			o := alloc(t, h, sp, c.f, c.n)
			same(t, "address", o, at)
			same(t, "space", h.Space(o), sp)
			same(t, "header", head(t, h, o), api.Header{Class: 5, Format: c.f, Slots: c.n})
			if c.f != api.FormatWords {
				sameList(t, "oops", oopsOf(t, h, o), slices.Repeat([]api.Oop{26}, c.n))
			} else {
				same(t, "sum of words", sum(wordsOf(t, h, o)), 0)
			}
			at += api.Oop(8 * (2 + c.n))
		}
		same(t, "room", h.Room(sp), map[api.Space]int{api.Eden: 64, api.Future: 16, api.Old: 160, api.Pins: 16}[sp]-16)
	}
}

func sum(l []uint64) uint64 {
	n := uint64(0)
	for _, w := range l {
		n += w
	}
	return n
}

// Bytes with each count of spare ones.
func TestBytesWithSpareOnes(t *testing.T) {
	for n := range 35 {
		h := made(t)
		o := alloc(t, h, api.Old, api.FormatBytes, n)
		slots := 0
		for slots*8 < n {
			slots++
		}
		same(t, "header", head(t, h, o), api.Header{Class: 5, Format: api.FormatBytes, Spare: slots*8 - n, Slots: slots})
		same(t, "next", alloc(t, h, api.Old, api.FormatBytes, 0), o+api.Oop(16+8*slots))
		size, e := h.Bytes(o)
		same(t, "bytes", size, n)
		succeeds(t, e)
		oops, e := h.Oops(o)
		same(t, "oops", oops, 0)
		succeeds(t, e)
		if l := bytesOf(t, h, o); !slices.Equal(l, make([]byte, n)) {
			t.Error(l)
		}
		for literals := range 3 {
			m := allocMethod(t, h, api.Old, literals, n)
			same(t, "header", head(t, h, m), api.Header{Class: 7, Format: api.FormatMethod, Spare: slots*8 - n, Slots: 1 + literals + slots})
			if l := bytesOf(t, h, m); !slices.Equal(l, make([]byte, n)) {
				t.Error(l)
			}
			sameList(t, "oops", oopsOf(t, h, m), []api.Oop{api.Oop(8*literals + 1), 0, 0}[:1+literals])
			for _, i := range []int{-1, n, n + 1, slots * 8, math.MinInt, math.MaxInt} {
				same(t, "error", second(h.Byte(m, i)), api.ErrHeapIndex)
				same(t, "error", h.SetByte(m, i, 1), api.ErrHeapIndex)
				same(t, "error", second(h.Byte(o, i)), api.ErrHeapIndex)
				same(t, "error", h.SetByte(o, i, 1), api.ErrHeapIndex)
			}
		}
	}
}

// All oops of a new object are special 0, whatever that is then; a method's first one is not.
func TestNewOopsAreSpecial0(t *testing.T) {
	h := made(t)
	old := alloc(t, h, api.Old, api.FormatPointers, 0)
	for _, v := range []api.Oop{0, 1, 2, math.MaxUint64 - 6, 2097151*8 + 2, old} {
		succeeds(t, h.SetSpecial(0, v))
		succeeds(t, h.SetSpecial(1, 17))
		for _, f := range []api.Format{api.FormatPointers, api.FormatWeak, api.FormatEphemeron} {
			o := alloc(t, h, api.Old, f, 2)
			sameList(t, "oops", oopsOf(t, h, o), []api.Oop{v, v})
		}
		m := allocMethod(t, h, api.Old, 3, 1)
		sameList(t, "oops", oopsOf(t, h, m), []api.Oop{25, v, v, v})
	}
}

// Of what was in the words before nothing is seen.
func TestNewObjectsInUsedWords(t *testing.T) {
	for _, c := range []struct {
		name string
		sp   api.Space
		free func(h *heap.Heap, o api.Oop)
	}{
		{"eden, emptied", api.Eden, func(h *heap.Heap, o api.Oop) { h.Flip() }},
		{"future, emptied as past", api.Future, func(h *heap.Heap, o api.Oop) { h.Flip(); h.Flip() }},
		{"old, slid", api.Old, func(h *heap.Heap, o api.Oop) { h.Free(o); h.Slide() }},
		{"pins", api.Pins, func(h *heap.Heap, o api.Oop) { h.Free(o) }},
	} {
		for _, f := range []api.Format{api.FormatPointers, api.FormatWords, api.FormatBytes, api.FormatMethod, api.FormatEphemeron} {
			h := made(t)
			n := 14
			garbage := alloc(t, h, c.sp, api.FormatWords, n)
			for i := range n {
				succeeds(t, h.SetWord(garbage, i, math.MaxUint64))
			}
			h.Hash(garbage)
			h.Mark(garbage, true)
			c.free(h, garbage)
			same(t, "is", h.Is(garbage), false)
			succeeds(t, h.SetSpecial(0, 33))
			var o api.Oop
			if f == api.FormatMethod {
				o = allocMethod(t, h, c.sp, 4, 70)
			} else {
				o = alloc(t, h, c.sp, f, 13)
			}
			same(t, c.name, o, garbage)
			x := head(t, h, o)
			same(t, "hash", x.Hash, 0)
			same(t, "marked", x.Marked, false)
			switch f {
			case api.FormatPointers, api.FormatEphemeron:
				sameList(t, c.name, oopsOf(t, h, o), slices.Repeat([]api.Oop{33}, 13))
			case api.FormatWords:
				same(t, c.name, sum(wordsOf(t, h, o)), 0)
			case api.FormatBytes:
				same(t, c.name, string(bytesOf(t, h, o)), string(make([]byte, 13)))
			case api.FormatMethod:
				sameList(t, c.name, oopsOf(t, h, o), []api.Oop{33, 33, 33, 33, 33})
				same(t, c.name, string(bytesOf(t, h, o)), string(make([]byte, 70)))
			}
		}
	}
}

// The top is behind the last object that was allocated or copied, even if that is none any more.
func TestWordsOfFreedObjectsAreNotUsedAgain(t *testing.T) {
	for _, sp := range []api.Space{api.Eden, api.Future, api.Old} {
		h := made(t)
		room := h.Room(sp)
		a, b := alloc(t, h, sp, api.FormatPointers, 1), alloc(t, h, sp, api.FormatPointers, 2)
		succeeds(t, h.Free(a))
		succeeds(t, h.Free(b))
		same(t, "room", h.Room(sp), room-7)
		same(t, "used", h.Used(sp), 0)
		c := alloc(t, h, sp, api.FormatPointers, 0)
		same(t, "address", c, b+32)
		d := alloc(t, h, sp, api.FormatPointers, 0)
		succeeds(t, h.Forward(c, d))
		same(t, "room", h.Room(sp), room-11)
		same(t, "used", h.Used(sp), 2)
		sameList(t, "walk", walked(h, sp), []api.Oop{d})
	}
}
