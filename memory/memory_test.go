package memory_test

import (
	"math"
	"slices"
	"strings"
	"testing"

	"palaver/api"
	"palaver/heap"
	"palaver/memory"
)

// Each size at its limits, and beyond them.
func TestNew(t *testing.T) {
	good := api.Sizes{Eden: 100, Survivor: 50, Bound: 1000, Pins: 10, Tenure: 3}
	for _, c := range []struct {
		set  func(z *api.Sizes)
		want api.Errno
	}{
		{func(z *api.Sizes) {}, api.OK},
		{func(z *api.Sizes) { z.Eden = 64 }, api.OK}, {func(z *api.Sizes) { z.Eden = 65536 }, api.OK},
		{func(z *api.Sizes) { z.Eden = 63 }, api.ErrHeapConfig}, {func(z *api.Sizes) { z.Eden = 65537 }, api.ErrHeapConfig}, {func(z *api.Sizes) { z.Eden = math.MaxInt }, api.ErrHeapConfig},
		{func(z *api.Sizes) { z.Survivor = 16 }, api.OK}, {func(z *api.Sizes) { z.Survivor = 100 }, api.OK},
		{func(z *api.Sizes) { z.Survivor = 15 }, api.ErrHeapConfig}, {func(z *api.Sizes) { z.Survivor = 101 }, api.ErrHeapConfig}, {func(z *api.Sizes) { z.Survivor = -1 }, api.ErrHeapConfig},
		{func(z *api.Sizes) { z.Bound = 64 }, api.OK}, {func(z *api.Sizes) { z.Bound = 1048576 }, api.OK},
		{func(z *api.Sizes) { z.Bound = 63 }, api.ErrHeapConfig}, {func(z *api.Sizes) { z.Bound = 1048577 }, api.ErrHeapConfig}, {func(z *api.Sizes) { z.Bound = math.MinInt }, api.ErrHeapConfig},
		{func(z *api.Sizes) { z.Pins = 0 }, api.OK}, {func(z *api.Sizes) { z.Pins = 65536 }, api.OK},
		{func(z *api.Sizes) { z.Pins = -1 }, api.ErrHeapConfig}, {func(z *api.Sizes) { z.Pins = 65537 }, api.ErrHeapConfig},
		{func(z *api.Sizes) { z.Tenure = 0 }, api.OK}, {func(z *api.Sizes) { z.Tenure = 15 }, api.OK},
		{func(z *api.Sizes) { z.Tenure = -1 }, api.ErrHeapConfig}, {func(z *api.Sizes) { z.Tenure = 16 }, api.ErrHeapConfig},
	} {
		z := good
		c.set(&z)
		m, e := memory.New(z)
		if e != c.want || (m == nil) != (e != api.OK) {
			t.Errorf("New(%+v): %v %d", z, m, e)
		}
		if m == nil {
			continue
		}
		same(t, "sizes", m.Sizes(), z)
		h, _ := heap.New(z)
		samePicture(t, "new", pictureOf(&trial{t, m, z}), picture{
			Objects: map[api.Oop]seen{},
			Rooms:   [6]int{0, z.Eden, z.Survivor, z.Survivor, h.Room(api.Old), z.Pins},
			Roots:   make([]api.Oop, 64+4096),
		})
	}
	m, e := memory.New(api.Sizes{})
	if m != nil || e != api.ErrHeapConfig {
		t.Errorf("New of nothing: %v %d", m, e)
	}
}

func TestHeap(t *testing.T) {
	r := begin(t, small())
	if r.m.Heap() == nil || r.m.Heap() != r.m.Heap() {
		t.Error("it is not the heap within")
	}
	o := r.made(r.m.AllocText(5, "abc"))
	n, e := r.m.Heap().Bytes(o)
	same(t, "bytes", n, 3)
	r.succeeds(e)
}

// The functions that are those of the heap: each with what it is for, and with what it refuses.
func TestFunctionsOfTheHeap(t *testing.T) {
	r := begin(t, wide())
	m := r.m
	a, w, b := r.alloc(api.FormatPointers, 2), r.alloc(api.FormatWords, 2), r.made(m.AllocText(5, "ab"))
	x := r.method("xyz", 9)
	n, e := m.Oops(x)
	same(t, "oops", n, 2)
	r.succeeds(e)
	n, e = m.Bytes(x)
	same(t, "bytes", n, 3)
	r.succeeds(e)

	r.succeeds(m.SetSlot(a, 1, b))
	same(t, "slot", r.slot(a, 1), b)
	r.refuses(api.ErrHeapIndex)(m.Slot(a, 2))
	r.fails(m.SetSlot(a, -1, 9), api.ErrHeapIndex)
	r.fails(m.SetSlot(x, 0, 9), api.ErrHeapKind)
	r.succeeds(m.SetByte(b, 1, 200))
	c, e := m.Byte(b, 1)
	same(t, "byte", c, 200)
	r.succeeds(e)
	_, e = m.Byte(b, 2)
	r.fails(e, api.ErrHeapIndex)
	r.fails(m.SetByte(b, -1, 1), api.ErrHeapIndex)
	r.succeeds(m.SetWord(w, 1, math.MaxUint64))
	u, e := m.Word(w, 1)
	same(t, "word", u, math.MaxUint64)
	r.succeeds(e)
	_, e = m.Word(a, 0)
	r.fails(e, api.ErrHeapKind)
	r.fails(m.SetWord(w, 2, 1), api.ErrHeapIndex)
	r.succeeds(m.SetClass(a, 4095))
	class, e := m.ClassOf(a)
	same(t, "class", class, 4095)
	r.succeeds(e)
	r.fails(m.SetClass(a, 4096), api.ErrArg)
	same(t, "hash", r.hash(w), 1)
	same(t, "hash", r.hash(a), 2)
	same(t, "hash", r.hash(w), 1)

	r.succeeds(m.SetSpecial(63, a))
	same(t, "special", r.made(m.Special(63)), a)
	r.refuses(api.ErrHeapRoot)(m.Special(64))
	r.fails(m.SetSpecial(-1, a), api.ErrHeapRoot)
	r.succeeds(m.SetClassAt(4095, a))
	same(t, "class", r.made(m.ClassAt(4095)), a)
	r.refuses(api.ErrHeapRoot)(m.ClassAt(-1))
	r.fails(m.SetClassAt(4096, a), api.ErrHeapRoot)
	r.refuses(api.ErrHeapRoot)(m.Pop())
	same(t, "place", r.push(a, 9), 0)
	same(t, "depth", m.Depth(), 2)
	same(t, "root", r.root(1), 9)
	r.succeeds(m.SetRoot(1, b))
	r.refuses(api.ErrHeapRoot)(m.Root(2))
	r.fails(m.SetRoot(2, b), api.ErrHeapRoot)
	same(t, "popped", r.made(m.Pop()), b)
	same(t, "depth", m.Depth(), 1)
	for range 4095 {
		m.Push(0)
	}
	_, e = m.Push(0)
	r.fails(e, api.ErrHeapRoot)
}

// What is no object, or may not be stored: each function says so, and nothing changes.
func TestWrongOops(t *testing.T) {
	r := begin(t, wide())
	m := r.m
	o := r.old(api.FormatPointers, 9, 0)
	r.succeeds(m.SetSpecial(0, o))
	r.push(r.of(api.FormatPointers, o), r.made(m.AllocText(5, "abc")), r.alloc(api.FormatWords, 1))
	before := pictureOf(r)
	for _, bad := range append([]api.Oop{0, 1, 9, math.MaxUint64 - 6, 2, 778, 8*2097151 + 2}, badWords...) {
		for what, e := range map[string]api.Errno{
			"Clone":    errOf(m.Clone(bad)),
			"SetClass": m.SetClass(bad, 5),
			"Format":   errOf(m.Format(bad)),
			"Oops":     errOf(m.Oops(bad)),
			"Bytes":    errOf(m.Bytes(bad)),
			"Slot":     errOf(m.Slot(bad, 0)),
			"SetSlot":  m.SetSlot(bad, 0, 9),
			"Byte":     errOf(m.Byte(bad, 0)),
			"SetByte":  m.SetByte(bad, 0, 9),
			"Text":     errOf(m.Text(bad)),
			"SetText":  m.SetText(bad, -1, "a"),
			"Word":     errOf(m.Word(bad, 0)),
			"SetWord":  m.SetWord(bad, 0, 9),
			"Hash":     errOf(m.Hash(bad)),
			"Pin":      errOf(m.Pin(bad)),
		} {
			if e != api.ErrHeapOop {
				t.Errorf("%s(%d): %d", what, bad, e)
			}
		}
		same(t, "pinned", m.Pinned(bad), false)
		r.fails(m.Become([]api.Oop{o}, []api.Oop{bad}), api.ErrMemoryPairs)
	}
	for _, bad := range badWords {
		r.fails(m.SetSlot(o, 0, bad), api.ErrArg)
		r.fails(m.SetSpecial(0, bad), api.ErrArg)
		r.fails(m.SetClassAt(0, bad), api.ErrArg)
		r.fails(m.SetRoot(0, bad), api.ErrArg)
		_, e := m.Push(bad)
		r.fails(e, api.ErrArg)
	}
	samePicture(t, "after what failed", pictureOf(r), before)
}

// errOf is the error beside a result, which has to be nothing.
func errOf[T comparable](got T, e api.Errno) api.Errno {
	var nothing T
	if got != nothing {
		return -1
	}
	return e
}

// Two memories side by side: neither sees what is done to the other one.
func TestMemoriesAreIndependent(t *testing.T) {
	one, other := begin(t, small()), begin(t, wide())
	for _, r := range []*trial{one, other} {
		r.push(r.of(api.FormatPointers, 9, 17), r.made(r.m.AllocText(5, "abc")))
		r.hash(r.root(1))
	}
	before := pictureOf(other)
	for range 40 {
		one.alloc(api.FormatPointers, 3)
	}
	one.made(one.m.Pin(one.root(1)))
	one.succeeds(one.m.SetText(one.root(1), 0, "xyz"))
	one.succeeds(one.m.Become([]api.Oop{one.root(0)}, []api.Oop{one.root(1)}))
	one.made(one.m.Clone(one.root(0)))
	one.scavenge()
	one.collect()
	one.hash(one.root(1))
	samePicture(t, "the other one", pictureOf(other), before)
	mid := pictureOf(one)
	other.collect()
	other.made(other.m.Pin(other.root(0)))
	samePicture(t, "the one", pictureOf(one), mid)
	same(t, "text", other.text(other.root(1)), "abc")
}

// The chapter's first example.
func TestExampleOfTheCount(t *testing.T) {
	r := begin(t, small())
	var counts []int
	for range 20 {
		r.alloc(api.FormatPointers, 2)
		counts = append(counts, r.m.Count())
	}
	sameList(t, "counts", counts, []int{4, 8, 12, 16, 20, 24, 28, 32, 36, 40, 44, 48, 52, 56, 60, 64, 4, 8, 12, 16})
	r = begin(t, small())
	for i := range 16 {
		r.push(r.alloc(api.FormatPointers, 2))
		same(t, "count", r.m.Count(), 4*i+4)
	}
	r.refuses(api.ErrMemoryFull)(r.m.Alloc(5, api.FormatPointers, 2))
	same(t, "count", r.m.Count(), 64)
}

// The second one.
func TestExampleOfAPinnedText(t *testing.T) {
	r := begin(t, small())
	o := r.made(r.m.AllocText(5, "abc"))
	r.push(o)
	p := r.made(r.m.Pin(o))
	same(t, "pinned", p, pinsAt)
	same(t, "root", r.root(0), p)
	same(t, "text", r.text(p), "abc")

	r = begin(t, small())
	o = r.made(r.m.AllocText(5, strings.Repeat("x", 49)))
	r.push(o)
	r.refuses(api.ErrMemoryPins)(r.m.Pin(o))
	same(t, "root", r.root(0), o)
}

// The third one.
func TestExampleOfBecome(t *testing.T) {
	r := begin(t, small())
	a, b := r.alloc(api.FormatPointers, 1), r.alloc(api.FormatPointers, 1)
	r.push(a, b)
	r.succeeds(r.m.Become([]api.Oop{a}, []api.Oop{b}))
	same(t, "root", r.root(0), b)
	same(t, "root", r.root(1), a)
}

// An object keeps its hash and its text, whatever else is done.
func TestHashAndTextStay(t *testing.T) {
	for _, z := range []api.Sizes{small(), wide(), {Eden: 64, Survivor: 64, Bound: 100, Pins: 20, Tenure: 15}, {Eden: 65536, Survivor: 16, Bound: 80, Pins: 8}} {
		r := begin(t, z)
		text := "a text \x00 of 20 bytes"
		r.push(r.made(r.m.AllocText(5, text)), r.method(text, 0))
		hashes := []int{r.hash(r.root(0)), r.hash(r.root(1))}
		check := func() {
			t.Helper()
			for i, hash := range hashes {
				same(t, "text", r.text(r.root(i)), text)
				same(t, "hash", r.hash(r.root(i)), hash)
			}
		}
		for i := range 30 {
			r.alloc(api.FormatPointers, i%5)
			check()
			r.made(r.m.Clone(r.root(i % 2)))
			check()
			r.made(r.m.AllocText(6, text[:i%10]))
			check()
			switch i % 7 {
			case 1:
				r.scavenge()
			case 3:
				r.collect()
			case 5:
				r.succeeds(r.m.Become([]api.Oop{r.root(0)}, []api.Oop{r.root(1)}))
				slices.Reverse(hashes)
			case 6:
				if i == 13 {
					r.made(r.m.Pin(r.root(0)))
				}
			}
			check()
		}
	}
}
