package heap_test

import (
	"math"
	"slices"
	"testing"

	"palaver/api"
	"palaver/heap"
)

// noObjects is a heap, and oops that are no objects of it.
func noObjects(t *testing.T) (*heap.Heap, map[string]api.Oop) {
	t.Helper()
	h := made(t)
	l := map[string]api.Oop{
		"none": 0, "nought": 1, "a SmallInteger": 129, "the least SmallInteger": 1<<63&math.MaxUint64 | 1, "a Character": 2, "the last Character": 2097151*8 + 2,
		"beyond the last Character": 2097152*8 + 2, "bad 3": 19, "bad 4": 20, "bad 5": 21, "bad 6": 22, "bad 7": 23, "all bits": math.MaxUint64,
		"ahead of the memory": 8, "behind the memory": endAt, "far behind": endAt + 8*64, "the last address": 1<<31 - 8, "beyond addresses": 1 << 31, "far beyond": 1<<63 + 16,
	}
	gone := alloc(t, h, api.Eden, api.FormatPointers, 1)
	alloc(t, h, api.Future, api.FormatWords, 8)
	past := alloc(t, h, api.Future, api.FormatPointers, 1)
	h.Flip()
	h.Flip()
	same(t, "the emptied half", past, secondAt+80)
	l["in emptied eden"], l["in an emptied half"] = gone, past
	alloc(t, h, api.Future, api.FormatPointers, 0)
	future := alloc(t, h, api.Future, api.FormatPointers, 3)
	l["inside an object of future"] = future + 16
	l["behind the top of future"] = future + 40
	o := alloc(t, h, api.Old, api.FormatPointers, 3)
	for i, name := range []string{"the second word of a header", "the first slot", "the second slot", "the last slot"} {
		l[name] = o + api.Oop(8*i+8)
	}
	l["a SmallInteger beside an address"], l["a Character beside an address"] = o+1, o+2
	for i := 3; i < 8; i++ {
		l["an address with bits "+string(rune('0'+i))] = o + api.Oop(i)
	}
	free, forwarded := alloc(t, h, api.Old, api.FormatPointers, 0), alloc(t, h, api.Old, api.FormatPointers, 0)
	succeeds(t, h.Free(free))
	succeeds(t, h.Forward(forwarded, o))
	l["freed"], l["forwarded"], l["behind the top of old"] = free, forwarded, forwarded+16+8*40
	alloc(t, h, api.Pins, api.FormatWords, 1)
	freePin, forwardedPin := alloc(t, h, api.Pins, api.FormatWords, 2), alloc(t, h, api.Pins, api.FormatWords, 0)
	last := alloc(t, h, api.Pins, api.FormatWords, 0)
	succeeds(t, h.Free(freePin))
	succeeds(t, h.Forward(forwardedPin, last))
	l["freed in pins"], l["in a gap"], l["forwarded in pins"] = freePin, freePin+8, forwardedPin
	l["in the last gap"] = last + 16
	return h, l
}

// What is no object is none for any call.
func TestNoObjects(t *testing.T) {
	h, l := noObjects(t)
	good := walked(h, api.Old)[0]
	before := pictureOf(t, h, small())
	for name, o := range l {
		same(t, name+": Is", h.Is(o), false)
		same(t, name+": Space", h.Space(o), 0)
		same(t, name+": Place", h.Place(o), -1)
		x, e := h.Head(o)
		same(t, name+": Head", x, api.Header{})
		same(t, name+": Head", e, api.ErrHeapOop)
		n, e := h.Oops(o)
		same(t, name+": Oops", n, 0)
		same(t, name+": Oops", e, api.ErrHeapOop)
		n, e = h.Bytes(o)
		same(t, name+": Bytes", n, 0)
		same(t, name+": Bytes", e, api.ErrHeapOop)
		n, e = h.Hash(o)
		same(t, name+": Hash", n, 0)
		same(t, name+": Hash", e, api.ErrHeapOop)
		// An index and values that may not be, either: that there is no object comes first.
		for _, i := range []int{0, -1, 70000} {
			v, e := h.Slot(o, i)
			same(t, name+": Slot", v, 0)
			same(t, name+": Slot", e, api.ErrHeapOop)
			b, e := h.Byte(o, i)
			same(t, name+": Byte", b, 0)
			same(t, name+": Byte", e, api.ErrHeapOop)
			w, e := h.Word(o, i)
			same(t, name+": Word", w, 0)
			same(t, name+": Word", e, api.ErrHeapOop)
			same(t, name+": SetSlot", h.SetSlot(o, i, 3), api.ErrHeapOop)
			same(t, name+": SetByte", h.SetByte(o, i, 3), api.ErrHeapOop)
			same(t, name+": SetWord", h.SetWord(o, i, 3), api.ErrHeapOop)
			same(t, name+": SetClass", h.SetClass(o, i), api.ErrHeapOop)
		}
		for _, f := range []api.Format{0, 1, 3, 5, 255} {
			same(t, name+": SetFormat", h.SetFormat(o, f), api.ErrHeapOop)
		}
		same(t, name+": Enqueue", h.Enqueue(o), api.ErrHeapOop)
		same(t, name+": Note", h.Note(o), api.ErrHeapOop)
		for _, sp := range []api.Space{api.Old, api.Eden, 0} {
			c, e := h.Copy(o, sp, int(sp)*5-4)
			same(t, name+": Copy", c, 0)
			same(t, name+": Copy", e, api.ErrHeapOop)
		}
		same(t, name+": Forward", h.Forward(o, good), api.ErrHeapOop)
		same(t, name+": Forward", h.Forward(o, o), api.ErrHeapOop)
		same(t, name+": Forward", h.Forward(o, 3), api.ErrHeapOop)
		same(t, name+": Forward to it", h.Forward(good, o), api.ErrArg)
		if o != 0 {
			same(t, name+": Replace", h.Replace(o, func(v api.Oop) api.Oop { t.Error("called"); return v }), api.ErrHeapOop)
		}
		for _, mark := range []bool{true, false} {
			was, e := h.Mark(o, mark)
			same(t, name+": Mark", was, false)
			same(t, name+": Mark", e, api.ErrHeapOop)
		}
		same(t, name+": Free", h.Free(o), api.ErrHeapOop)
	}
	samePicture(t, "after what failed", pictureOf(t, h, small()), before)
}

// What may be stored: 0, numbers, Characters and objects of this heap.
func TestWhatMayBeStored(t *testing.T) {
	h, l := noObjects(t)
	o := alloc(t, h, api.Old, api.FormatPointers, 1)
	m := allocMethod(t, h, api.Old, 1, 0)
	succeeds(t, second(h.Push(9)))
	stores := map[string]func(v api.Oop) api.Errno{
		"SetSlot":           func(v api.Oop) api.Errno { return h.SetSlot(o, 0, v) },
		"SetSlot, a method": func(v api.Oop) api.Errno { return h.SetSlot(m, 1, v) },
		"SetSpecial":        func(v api.Oop) api.Errno { return h.SetSpecial(63, v) },
		"SetClassAt":        func(v api.Oop) api.Errno { return h.SetClassAt(4095, v) },
		"SetRoot":           func(v api.Oop) api.Errno { return h.SetRoot(0, v) },
		"Push":              func(v api.Oop) api.Errno { return second(h.Push(v)) },
	}
	reads := map[string]func() (api.Oop, api.Errno){
		"SetSlot":           func() (api.Oop, api.Errno) { return h.Slot(o, 0) },
		"SetSlot, a method": func() (api.Oop, api.Errno) { return h.Slot(m, 1) },
		"SetSpecial":        func() (api.Oop, api.Errno) { return h.Special(63) },
		"SetClassAt":        func() (api.Oop, api.Errno) { return h.ClassAt(4095) },
		"SetRoot":           func() (api.Oop, api.Errno) { return h.Root(0) },
		"Push":              func() (api.Oop, api.Errno) { return h.Root(h.Depth() - 1) },
	}
	good := []string{"none", "nought", "a SmallInteger", "the least SmallInteger", "a Character", "the last Character", "a SmallInteger beside an address", "a Character beside an address"}
	for name, v := range l {
		if slices.Contains(good, name) {
			continue
		}
		before := pictureOf(t, h, small())
		for call, store := range stores {
			same(t, call+" of "+name, store(v), api.ErrArg)
		}
		samePicture(t, name, pictureOf(t, h, small()), before)
	}
	values := []api.Oop{o, m, edenAt}
	alloc(t, h, api.Eden, api.FormatPointers, 0)
	for _, name := range good {
		values = append(values, l[name])
	}
	for _, v := range values {
		for call, store := range stores {
			succeeds(t, store(v))
			got, e := reads[call]()
			same(t, call, got, v)
			succeeds(t, e)
		}
	}
}

// An object of another heap is none of this one, unless this one has one there.
func TestObjectsOfOtherHeaps(t *testing.T) {
	g, h := made(t), made(t)
	o := alloc(t, g, api.Old, api.FormatPointers, 1)
	v := alloc(t, g, api.Old, api.FormatPointers, 1)
	same(t, "address", alloc(t, h, api.Old, api.FormatPointers, 1), o)
	same(t, "Is", h.Is(v), false)
	same(t, "SetSlot", h.SetSlot(o, 0, v), api.ErrArg)
	same(t, "SetSlot", g.SetSlot(o, 0, v), api.OK)
	sameList(t, "oops", oopsOf(t, h, o), []api.Oop{0})
}

// Oops, bytes and words of objects of each format, and at indexes that they do not have.
func TestPartsOfEachFormat(t *testing.T) {
	h := made(t)
	for _, c := range []struct {
		o                  api.Oop
		oops, bytes, words int // words -1: it is not of words
	}{
		{alloc(t, h, api.Old, api.FormatPointers, 3), 3, 0, -1},
		{alloc(t, h, api.Old, api.FormatPointers, 0), 0, 0, -1},
		{alloc(t, h, api.Old, api.FormatWeak, 2), 2, 0, -1},
		{alloc(t, h, api.Old, api.FormatWeak, 0), 0, 0, -1},
		{alloc(t, h, api.Old, api.FormatEphemeron, 1), 1, 0, -1},
		{alloc(t, h, api.Old, api.FormatWords, 2), 0, 0, 2},
		{alloc(t, h, api.Old, api.FormatWords, 0), 0, 0, 0},
		{alloc(t, h, api.Old, api.FormatBytes, 11), 0, 11, -1},
		{alloc(t, h, api.Old, api.FormatBytes, 0), 0, 0, -1},
		{allocMethod(t, h, api.Old, 2, 9), 3, 9, -1},
		{allocMethod(t, h, api.Old, 0, 3), 1, 3, -1},
		{allocMethod(t, h, api.Old, 2, 0), 3, 0, -1},
		{allocMethod(t, h, api.Old, 0, 0), 1, 0, -1},
	} {
		n, e := h.Oops(c.o)
		same(t, "Oops", n, c.oops)
		succeeds(t, e)
		n, e = h.Bytes(c.o)
		same(t, "Bytes", n, c.bytes)
		succeeds(t, e)
		before := pictureOf(t, h, small())
		for _, i := range []int{-1, math.MinInt, c.oops, c.oops + 1, 65536, math.MaxInt} {
			v, e := h.Slot(c.o, i)
			same(t, "Slot", v, 0)
			same(t, "Slot", e, api.ErrHeapIndex)
			// That there is no such oop comes ahead of a value that may not be.
			same(t, "SetSlot", h.SetSlot(c.o, i, 9), api.ErrHeapIndex)
			same(t, "SetSlot", h.SetSlot(c.o, i, 3), api.ErrHeapIndex)
		}
		for _, i := range []int{-1, math.MinInt, c.bytes, c.bytes + 1, 524288, math.MaxInt} {
			b, e := h.Byte(c.o, i)
			same(t, "Byte", b, 0)
			same(t, "Byte", e, api.ErrHeapIndex)
			same(t, "SetByte", h.SetByte(c.o, i, 1), api.ErrHeapIndex)
		}
		for _, i := range []int{-1, math.MinInt, c.words, c.words + 1, 65536, math.MaxInt} {
			want := api.ErrHeapIndex
			if c.words < 0 {
				want = api.ErrHeapKind
			}
			w, e := h.Word(c.o, i)
			same(t, "Word", w, 0)
			same(t, "Word", e, want)
			same(t, "SetWord", h.SetWord(c.o, i, 1), want)
		}
		if c.words < 0 {
			same(t, "Word 0", second(h.Word(c.o, 0)), api.ErrHeapKind)
			same(t, "SetWord 0", h.SetWord(c.o, 0, 1), api.ErrHeapKind)
		}
		samePicture(t, "after what failed", pictureOf(t, h, small()), before)
	}
}

// The number of a method's literals is read, not written.
func TestCountOfLiterals(t *testing.T) {
	h := made(t)
	for literals := range 5 {
		m := allocMethod(t, h, api.Old, literals, 5)
		v, e := h.Slot(m, 0)
		same(t, "Slot 0", v, api.Oop(8*literals+1))
		succeeds(t, e)
		for _, v := range []api.Oop{1, v, 0, 9, 3, 20, m} {
			same(t, "SetSlot 0", h.SetSlot(m, 0, v), api.ErrHeapKind)
		}
		for i := 1; i <= literals; i++ {
			succeeds(t, h.SetSlot(m, i, 17))
		}
		same(t, "SetSlot behind the literals", h.SetSlot(m, 1+literals, 17), api.ErrHeapIndex)
		sameList(t, "oops", oopsOf(t, h, m), append([]api.Oop{v}, slices.Repeat([]api.Oop{17}, literals)...))
		same(t, "bytes", string(bytesOf(t, h, m)), "\x00\x00\x00\x00\x00")
	}
}

// What holds: an object keeps what was stored in it; objects do not share words. All parts of all objects of all spaces are written, with numbers that differ.
func TestObjectsShareNothing(t *testing.T) {
	h := made(t)
	var l []api.Oop
	for _, sp := range []api.Space{api.Eden, api.Future, api.Old, api.Pins} {
		for i := 0; h.Room(sp) >= 5; i++ {
			switch i % 5 {
			case 0:
				l = append(l, alloc(t, h, sp, api.FormatPointers, 3))
			case 1:
				l = append(l, alloc(t, h, sp, api.FormatBytes, 13))
			case 2:
				l = append(l, allocMethod(t, h, sp, 1, 5))
			case 3:
				l = append(l, alloc(t, h, sp, api.FormatWords, 1))
			case 4:
				l = append(l, alloc(t, h, sp, api.FormatEphemeron, 1))
			}
		}
	}
	heads := map[api.Oop]api.Header{}
	for _, o := range l {
		heads[o] = head(t, h, o)
	}
	number := uint64(0)
	next := func() uint64 {
		number = number*6364136223846793005 + 1442695040888963407
		return number >> 8
	}
	visit := func(oop func(o api.Oop, i int, n uint64), b func(o api.Oop, i int, n uint64), w func(o api.Oop, i int, n uint64)) {
		number = 0
		for _, o := range l {
			method := heads[o].Format == api.FormatMethod
			oops, _ := h.Oops(o)
			for i := range oops {
				if !method || i > 0 {
					oop(o, i, next())
				}
			}
			bytes, _ := h.Bytes(o)
			for i := range bytes {
				b(o, i, next())
			}
			for i := range len(wordsOf(t, h, o)) {
				w(o, i, next())
			}
		}
	}
	visit(func(o api.Oop, i int, n uint64) { succeeds(t, h.SetSlot(o, i, api.Oop(n*8+1))) },
		func(o api.Oop, i int, n uint64) { succeeds(t, h.SetByte(o, i, byte(n))) },
		func(o api.Oop, i int, n uint64) { succeeds(t, h.SetWord(o, i, n|1<<63)) })
	parts := 0
	visit(func(o api.Oop, i int, n uint64) {
		v, _ := h.Slot(o, i)
		same(t, "oop", v, api.Oop(n*8+1))
		parts++
	}, func(o api.Oop, i int, n uint64) {
		v, _ := h.Byte(o, i)
		same(t, "byte", v, byte(n))
		parts++
	}, func(o api.Oop, i int, n uint64) {
		v, _ := h.Word(o, i)
		same(t, "word", v, n|1<<63)
		parts++
	})
	for _, o := range l {
		same(t, "header", head(t, h, o), heads[o])
	}
	if parts < 200 {
		t.Error(parts)
	}
}

// A byte is written without its neighbours in the word.
func TestBytesByThemselves(t *testing.T) {
	h := made(t)
	for _, o := range []api.Oop{alloc(t, h, api.Eden, api.FormatBytes, 19), allocMethod(t, h, api.Eden, 2, 19)} {
		want := make([]byte, 19)
		for _, b := range []byte{255, 0, 1, 128, 200, 170} {
			for i := range want {
				i = i * 7 % 19
				succeeds(t, h.SetByte(o, i, b))
				want[i] = b
				if got := bytesOf(t, h, o); !slices.Equal(got, want) {
					t.Fatalf("byte %d: %v, not %v", i, got, want)
				}
				b++
			}
		}
		same(t, "oops", len(oopsOf(t, h, o)), head(t, h, o).Slots-3)
	}
}

func TestSetClass(t *testing.T) {
	h := made(t)
	o := allocMethod(t, h, api.Old, 1, 3)
	h.Hash(o)
	h.Mark(o, true)
	succeeds(t, h.Note(o))
	for _, class := range []int{0, 4095, 1, 4094} {
		succeeds(t, h.SetClass(o, class))
		same(t, "header", head(t, h, o), api.Header{Class: class, Format: api.FormatMethod, Spare: 5, Hash: 1, Slots: 3, Marked: true, Noted: true})
		for _, bad := range []int{-1, 4096, 8191, math.MinInt, math.MaxInt, 1 << 32} {
			same(t, "error", h.SetClass(o, bad), api.ErrArg)
		}
		same(t, "class", head(t, h, o).Class, class)
	}
	sameList(t, "oops", oopsOf(t, h, o), []api.Oop{9, 0})
}

func TestSetFormat(t *testing.T) {
	h := made(t)
	objects := map[api.Format]api.Oop{}
	for f := api.FormatPointers; f <= api.FormatBytes; f++ {
		objects[f] = alloc(t, h, api.Old, f, 2)
	}
	objects[api.FormatMethod] = allocMethod(t, h, api.Old, 1, 3)
	for was, o := range objects {
		for f := range api.Format(12) {
			before := head(t, h, o)
			e := h.SetFormat(o, f)
			after := before
			if was <= 3 && f >= 1 && f <= 3 {
				after.Format = f
				same(t, "error", e, api.OK)
			} else {
				same(t, "error", e, api.ErrHeapKind)
			}
			same(t, "header", head(t, h, o), after)
		}
		same(t, "error", h.SetFormat(o, 255), api.ErrHeapKind)
	}
	// Without slots: no ephemeron. But formats that may not be at all come first.
	for _, f := range []api.Format{api.FormatPointers, api.FormatWeak} {
		o := alloc(t, h, api.Old, f, 0)
		same(t, "error", h.SetFormat(o, api.FormatEphemeron), api.ErrArg)
		same(t, "error", h.SetFormat(o, api.FormatWords), api.ErrHeapKind)
		same(t, "error", h.SetFormat(o, 0), api.ErrHeapKind)
		same(t, "format", head(t, h, o).Format, f)
		same(t, "error", h.SetFormat(o, 3-f), api.OK)
		same(t, "format", head(t, h, o).Format, 3-f)
	}
	for _, f := range []api.Format{api.FormatBytes, api.FormatWords} {
		same(t, "error", h.SetFormat(alloc(t, h, api.Old, f, 0), api.FormatEphemeron), api.ErrHeapKind)
	}
	// The oops stay.
	o := alloc(t, h, api.Old, api.FormatPointers, 2)
	succeeds(t, h.SetSlot(o, 1, 17))
	succeeds(t, h.SetFormat(o, api.FormatEphemeron))
	sameList(t, "oops", oopsOf(t, h, o), []api.Oop{0, 17})
}

func TestHash(t *testing.T) {
	h := made(t)
	for i := range 3 {
		o := alloc(t, h, api.Eden, api.FormatPointers, i)
		same(t, "none yet", head(t, h, o).Hash, 0)
		same(t, "given", h.Given(), i)
		for range 2 {
			n, e := h.Hash(o)
			same(t, "hash", n, i+1)
			succeeds(t, e)
			same(t, "header", head(t, h, o), api.Header{Class: 5, Format: api.FormatPointers, Hash: i + 1, Slots: i})
			same(t, "given", h.Given(), i+1)
		}
	}
}

// The hashes go round: 4194303 of them, and one more.
func TestAllHashes(t *testing.T) {
	h := sized(t, api.Sizes{Eden: 65536, Survivor: 16, Bound: 64})
	for i := range 4194303 + 2 {
		o, e := h.Alloc(api.Eden, 1, api.FormatPointers, 0)
		if e == api.ErrHeapFull {
			h.Flip()
			o, e = h.Alloc(api.Eden, 1, api.FormatPointers, 0)
		}
		n, g := h.Hash(o)
		if e != api.OK || g != api.OK || n != i%4194303+1 || h.Given() != (i+1)%4194303 {
			t.Fatal(i, n, e, g, h.Given())
		}
	}
}
