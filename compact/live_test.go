package compact_test

import (
	"math"
	"slices"
	"testing"

	"palaver/api"
	"palaver/compact"
	"palaver/heap"
)

// The exact signatures: a caller may keep the functions in variables.
var (
	_ func(*heap.Heap) api.Report           = compact.Run
	_ func(*heap.Heap) (api.Errno, api.Oop) = compact.Check
)

// rootKinds are ways to name an object by a root.
func rootKinds() map[string]func(h *heap.Heap, o api.Oop) api.Errno {
	special := func(i int) func(*heap.Heap, api.Oop) api.Errno {
		return func(h *heap.Heap, o api.Oop) api.Errno { return h.SetSpecial(i, o) }
	}
	class := func(i int) func(*heap.Heap, api.Oop) api.Errno {
		return func(h *heap.Heap, o api.Oop) api.Errno { return h.SetClassAt(i, o) }
	}
	return map[string]func(h *heap.Heap, o api.Oop) api.Errno{
		"special 0": special(0), "special 1": special(1), "special 63": special(63),
		"class 0": class(0), "class 65": class(65), "class 4095": class(4095),
		"stack": func(h *heap.Heap, o api.Oop) api.Errno {
			_, e := h.Push(o)
			return e
		},
		"queue": func(h *heap.Heap, o api.Oop) api.Errno { return h.Enqueue(o) },
	}
}

// Step 1: what a root of whatever kind names lives, in whatever space it is; what nothing names does not.
func TestRootsOfEachKind(t *testing.T) {
	for kind, name := range rootKinds() {
		for _, sp := range allSpaces {
			r := scene(t, spaceNames()[sp]+" A B:C C D:A", "")
			r.succeeds(name(r.h, r.at('B')))
			moved := 0
			if sp == api.Old {
				moved = 2
			}
			r.runs(counts{kept: 2, freed: 2, moved: moved})
			r.lies(sp, "BC")
			r.roots("B")
			if t.Failed() {
				t.Fatal(kind, spaceNames()[sp])
			}
		}
	}
}

// A root that names it no longer keeps nothing.
func TestRootsThatAreGone(t *testing.T) {
	r := scene(t, "A B C D E", "A")
	r.succeeds(r.h.SetSpecial(3, r.at('B')))
	r.succeeds(r.h.SetClassAt(3, r.at('C')))
	r.succeeds(r.h.Enqueue(r.at('D')))
	r.succeeds(r.h.Enqueue(r.at('E')))
	r.runs(counts{kept: 5})
	r.h.Pop()
	r.runs(counts{kept: 4, freed: 1, moved: 4})
	r.succeeds(r.h.SetSpecial(3, 0))
	r.runs(counts{kept: 3, freed: 1, moved: 3})
	r.succeeds(r.h.SetClassAt(3, 9))
	r.runs(counts{kept: 2, freed: 1, moved: 2})
	same(t, "first of the queue", r.name(r.h.Dequeue()), "D")
	r.runs(counts{kept: 1, freed: 1, moved: 1})
	same(t, "next of the queue", r.name(r.h.Dequeue()), "E")
	r.runs(counts{freed: 1})
}

// The roots visit in their order, which is that of waiting ephemerons: specials, classes, the stack from its bottom, the queue from its first element.
func TestOrderOfRoots(t *testing.T) {
	r := scene(t, "A!K B!K C!K D!K E!K F!K G!K H!K K", "FC")
	r.succeeds(r.h.SetSpecial(63, r.at('B')))
	r.succeeds(r.h.SetSpecial(2, r.at('H')))
	r.succeeds(r.h.SetClassAt(4095, r.at('A')))
	r.succeeds(r.h.SetClassAt(0, r.at('G')))
	r.succeeds(r.h.Enqueue(r.at('E')))
	r.succeeds(r.h.Enqueue(r.at('D')))
	r.runs(counts{kept: 9, fired: "HBGAFCED"})
}

// An object that several roots name is visited by the first one.
func TestObjectsThatSeveralRootsName(t *testing.T) {
	r := scene(t, "A!K B!K C!K K", "ABAC")
	r.succeeds(r.h.SetSpecial(9, r.at('C')))
	r.succeeds(r.h.Enqueue(r.at('A')))
	r.runs(counts{kept: 4, fired: "CAB"})
}

// Step 2: the queue is processed in its order, and an object's oops are visited in theirs.
func TestOrderOfTheQueue(t *testing.T) {
	for _, c := range []struct{ text, stack, fired string }{
		{"A:BE B:F E!K F!K K", "A", "EF"},               // what is deeper comes later
		{"A:BE B:FG G!K F!K E!K K", "A", "EFG"},         // .. in the order of the oops
		{"A:CB B:E C:F E!K F!K K", "A", "FE"},           // .. of those that name them
		{"A:E B:F E!K F!K K", "BA", "FE"},               // .. of the roots
		{"A:B B:C C:E E!K D:F F!K K", "AD", "FE"},       // a level behind the other
		{"A*BE B*F E!K F!K K", "A", "EF"},               // methods
		{"A:BE B:FE F!K E!K K", "A", "EF"},              // by the first visit
		{"A!.BE B!#F E!K F!K K", "A", "EF"},             // ephemerons that need not wait
		{"W?E A:F E!K F!K K B:E", "WAB", "FE"},          // a weak object visits none
		{"A:F B:E E!K F!K K", "FEAB", "FE"},             // what roots name comes ahead
		{"E!KF F!KG G!KH H!K K", "E", "E"},              // an only one, by which all keys live
		{"E!KF F!LG G!MH H!N K L M N", "E", "EFGH"},     // one in each round
		{"A:EF E!KG F!LH G!M H!N K L M N", "A", "EFGH"}, // two in each round
	} {
		r := scene(t, c.text, c.stack)
		report := r.run()
		same(t, c.text+" fired", r.names(report.Fired), c.fired)
	}
}

func TestChainsRingsAndObjectsThatNameThemselves(t *testing.T) {
	for _, c := range []struct {
		text, stack string
		want        counts
		old         string
	}{
		{"A:B B:C C:D D", "A", counts{kept: 4}, "ABCD"},
		{"D C:D B:C A:B", "A", counts{kept: 4}, "DCBA"},
		{"A:B B:C C:D D", "C", counts{kept: 2, freed: 2, moved: 2}, "CD"},
		{"A:B B:C C:A", "B", counts{kept: 3}, "ABC"},
		{"A:B B:C C:A", "", counts{freed: 3}, ""},
		{"A:A", "A", counts{kept: 1}, "A"},
		{"A:A B:BB", "B", counts{kept: 1, freed: 1, moved: 1}, "B"},
		{"A:A", "", counts{freed: 1}, ""},
		{"A:B B:A C:A", "C", counts{kept: 3}, "ABC"},
		{"A:B B:AC C", "C", counts{kept: 1, freed: 2, moved: 1}, "C"}, // who names is not kept by whom it names
		{"A:BCD B:D C:D D:A", "D", counts{kept: 4}, "ABCD"},
		{"A:.#A", "A", counts{kept: 1}, "A"},
		{"A B C", "", counts{freed: 3}, ""},
		{"A:BBB B", "AAA", counts{kept: 2}, "AB"},
	} {
		r := scene(t, c.text, c.stack)
		r.runs(c.want)
		r.lies(api.Old, c.old)
		r.roots(c.stack)
		if t.Failed() {
			t.Fatal(c.text)
		}
	}
}

// References cross all spaces.
func TestReferencesAcrossSpaces(t *testing.T) {
	for _, first := range allSpaces {
		for _, second := range allSpaces {
			text := spaceNames()[first] + " A:B X " + spaceNames()[second] + " B:A Y:X"
			r := scene(t, text, "A")
			report := r.run()
			same(t, "kept", report.Kept, 2)
			same(t, "freed", report.Freed, 2)
			r.refers('A', "B")
			r.refers('B', "A")
			same(t, "space", r.h.Space(r.at('A')), first)
			same(t, "space", r.h.Space(r.at('B')), second)
			r.sound()
		}
	}
}

// Step 2: all literals of a method are visited; the bytes behind them are none, nor is what counts them.
func TestMethods(t *testing.T) {
	for _, sp := range []string{"eden", "past", "future", "old", "pins"} {
		r := scene(t, sp+" M*ABA N* A B X", "MN")
		for i, b := range []byte{byte(r.at('X')), byte(r.at('X') >> 8), 7} {
			r.succeeds(r.h.SetByte(r.at('M'), i, b))
		}
		bytes := restOf(r.h, r.at('M'))
		report := r.run()
		same(t, "kept", report.Kept, 4)
		same(t, "freed", report.Freed, 1)
		r.refers('M', "#ABA")
		r.refers('N', "#")
		same(t, "literals", oopsOf(t, r.h, r.at('M'))[0], 25)
		same(t, "no literals", oopsOf(t, r.h, r.at('N'))[0], 1)
		if got := restOf(r.h, r.at('M')); !slices.Equal(got, bytes) {
			t.Errorf("bytes %v, not %v", got, bytes)
		}
	}
	// A method that lives by nothing else does not keep its literals.
	scene(t, "M*AB A B", "A").runs(counts{kept: 1, freed: 2, moved: 1})
	scene(t, "M* N*", "N").runs(counts{kept: 1, freed: 1, moved: 1})
}

// Step 2: words and bytes name nothing, whatever they look like.
func TestWordsAndBytes(t *testing.T) {
	for _, sp := range allSpaces {
		if sp == api.Past {
			continue
		}
		r := begin(t, wide())
		a := r.of(sp, 'A', api.FormatPointers, 0)
		w := r.of(sp, 'W', api.FormatWords, 2)
		b := r.of(sp, 'B', api.FormatBytes, 9)
		r.of(sp, 'C', api.FormatBytes, 0)
		r.of(sp, 'V', api.FormatWords, 0)
		r.of(sp, 'P', api.FormatPointers, 0)
		r.of(sp, 'Q', api.FormatWeak, 0)
		r.succeeds(r.h.SetWord(w, 0, uint64(a)))
		r.succeeds(r.h.SetWord(w, 1, uint64(b)))
		for i := range 8 {
			r.succeeds(r.h.SetByte(b, i, byte(a>>(8*i))))
		}
		r.push(r.all("WBCVPQ")...)
		report := r.run()
		same(t, "kept", report.Kept, 6)
		same(t, "freed", report.Freed, 1)
		// They are not renamed either: A's address lies in them as before.
		if got := restOf(r.h, r.at('W')); !slices.Equal(got, []uint64{uint64(a), uint64(b)}) {
			t.Errorf("words %v", got)
		}
		same(t, "byte", restOf(r.h, r.at('B'))[0], uint64(byte(a)))
		r.lies(sp, "WBCVPQ")
	}
}

// no are words that name no object, of a heap with A:### in old, an address that was freed and one that was forwarded to A.
func no(r *trial) []api.Oop {
	a := r.at('A')
	freed, forwarded := r.at('F'), r.at('G')
	r.succeeds(r.h.Free(freed))
	r.succeeds(r.h.Forward(forwarded, a))
	return []api.Oop{
		freed, forwarded, freed + 8, // where objects were
		a + 8, a + 16, a + 24, a + 32, a + 40, // in the middle of an object
		8, 16, 16 + 8*255, 16 + 8*1150, 8 * 100000, 1<<31 - 8, // where none is
		1, 9, math.MaxUint64 - 6, 2, 778, 2097151*8 + 2, // numbers and Characters
		0, 3, 4, 5, 6, 7, a + 1, a + 2, a + 3, a + 4, 2097152*8 + 2, 1 << 31, math.MaxUint64, // no oops
	}
}

// What names no object is ignored in roots and in objects of all formats, and stays as it is.
func TestWordsThatNameNoObject(t *testing.T) {
	stage := func() *trial {
		return scene(t, "A:### B:#A C?#A D!A# E!#A M*#A F:# G:#", "")
	}
	for i := range no(stage()) {
		r := stage()
		v := no(r)[i]
		for _, c := range []struct {
			name byte
			at   int
		}{{'B', 0}, {'C', 0}, {'D', 1}, {'E', 0}, {'M', 1}} {
			r.spoil(r.at(c.name), c.at, v)
		}
		r.push(v)
		r.push(r.all("BCDEM")...)
		r.push(v)
		r.root(func(o api.Oop) api.Errno { return r.h.SetSpecial(5, o) }, v)
		r.root(func(o api.Oop) api.Errno { return r.h.SetClassAt(5, o) }, v)
		r.runs(counts{kept: 6})
		for _, c := range []struct {
			name byte
			at   int
		}{{'B', 0}, {'C', 0}, {'D', 1}, {'E', 0}, {'M', 1}} {
			same(t, "oop", oopsOf(t, r.h, r.at(c.name))[c.at], v)
		}
		roots := slices.Collect(r.h.Roots())
		for _, at := range []int{5, 64 + 5, 64 + 4096, 64 + 4096 + 6} {
			same(t, "root", roots[at], v)
		}
		for _, name := range []byte("BE") {
			same(t, "the other oop", oopsOf(t, r.h, r.at(name))[1], r.at('A'))
		}
		if t.Failed() {
			t.Fatalf("word %d", v)
		}
	}
}

// An address that was forwarded does not keep its target; in pins, where an object may lie at it again, it keeps that.
func TestForwardedAddresses(t *testing.T) {
	for _, sp := range allSpaces {
		r := scene(t, spaceNames()[sp]+" F T", "")
		f := r.at('F')
		r.push(f)
		r.succeeds(r.h.Forward(f, r.at('T')))
		report := r.run()
		same(t, "kept", report.Kept, 0)
		same(t, "freed", report.Freed, 1)
		v, _ := r.h.Root(0)
		same(t, "root", v, f)
	}
	r := scene(t, "T pins F", "F")
	r.succeeds(r.h.Forward(r.at('F'), r.at('T')))
	r.lay("pins G")
	r.runs(counts{kept: 1, freed: 1})
	r.roots("G")
}

// What is kept keeps all that it has: class, format, hash, age, and what is in it.
func TestHeadersOfWhatIsKept(t *testing.T) {
	for _, sp := range allSpaces {
		r := scene(t, spaceNames()[sp]+" X A:#. W?# E!#. M*#", "AWEM")
		if sp != api.Past && sp != api.Eden {
			o, e := r.h.Copy(r.at('A'), sp, 13)
			r.succeeds(e)
			r.succeeds(r.h.SetClass(o, 'B'))
			r.push(o)
		}
		for _, name := range []byte("MWX") {
			_, e := r.h.Hash(r.at(name))
			r.succeeds(e)
		}
		// All else is what the model asks for.
		report := r.run()
		same(t, "freed", report.Freed, 1)
		same(t, "hash", r.head(r.at('M')).Hash, 1)
		same(t, "hash", r.head(r.at('W')).Hash, 2)
		same(t, "hash", r.head(r.at('A')).Hash, 0)
		same(t, "given", r.h.Given(), 3)
	}
}

// Marks from ahead of a run say nothing, and none is left behind it.
func TestMarksFromAhead(t *testing.T) {
	for _, marked := range []string{"A", "B", "X", "Y", "AB", "XY", "ABXYWKE", "W", "K", "E", "EK", "WX"} {
		for _, sp := range []string{"eden", "past", "future", "old", "pins"} {
			r := scene(t, sp+" A:B B:C C X:Y Y W?X E!K K", "AWE")
			for _, o := range r.all(marked) {
				r.h.Mark(o, true)
			}
			report := r.run()
			same(t, marked+" kept", report.Kept, 6)
			same(t, marked+" freed", report.Freed, 2)
			same(t, marked+" cleared", report.Cleared, 1)
			same(t, marked+" fired", r.names(report.Fired), "E")
			r.sound()
			for _, sp := range allSpaces {
				for o := range r.h.Walk(sp) {
					same(t, "mark", r.head(o).Marked, false)
				}
			}
		}
	}
}

// A chain, so long that the queue grows many times, and each object of it found while it is processed.
func TestLongChain(t *testing.T) {
	r := begin(t, api.Sizes{Eden: 65536, Survivor: 16, Bound: 64})
	o, n := api.Oop(0), 0
	for r.h.Room(api.Eden) >= 3 {
		o = r.of(api.Eden, 'A', api.FormatPointers, 1)
		if n > 0 {
			r.set(o, 0, api.Oop(16+24*(n-1)))
		}
		n++
	}
	r.push(o)
	report := compact.Run(r.h)
	sameReport(t, report, api.Report{Kept: n})
	_, e := r.h.Pop()
	r.succeeds(e)
	report = compact.Run(r.h)
	sameReport(t, report, api.Report{Freed: n})
}
