package graph_test

import (
	"slices"
	"testing"

	"palaver/api"
	"palaver/graph"
)

// Roots of each kind visit, in the order of the document, whatever the order in which they were set; what nothing names is not reached.
func TestRootsOfEachKind(t *testing.T) {
	for _, sp := range allSpaces {
		r := scene(t, spaceNames()[sp]+" X:A H G F E D C B A Y:X", "")
		for _, o := range r.all("GH") {
			r.succeeds(r.h.Enqueue(o))
		}
		r.push(r.all("EF")...)
		r.succeeds(r.h.SetClassAt(4095, r.at('D')))
		r.succeeds(r.h.SetClassAt(0, r.at('C')))
		r.succeeds(r.h.SetSpecial(63, r.at('B')))
		r.succeeds(r.h.SetSpecial(0, r.at('A')))
		r.reaches("ABCDEFGH")
		r.lives("ABCDEFGH", "")
		l := graph.Form(r.h)
		sameList(t, "counts", l[:3], []uint64{8, 2, 2})
		roots := make([]uint64, 64+4096+2+2)
		for i, at := range []int{0, 63, 64, 64 + 4095, 64 + 4096, 64 + 4097, 64 + 4098, 64 + 4099} {
			roots[at] = uint64(8 * (i + 1))
		}
		sameList(t, "roots", l[3:3+len(roots)], roots)
		same(t, "dequeued", r.names([]api.Oop{r.h.Dequeue()}), "G")
		r.reaches("ABCDEFH")
		r.succeeds(r.h.SetClassAt(0, 9))
		_, e := r.h.Pop()
		r.succeeds(e)
		r.reaches("ABDEH")
	}
}

// Each root by itself keeps what it names, and what that refers to.
func TestEachRootAlone(t *testing.T) {
	for _, c := range []struct {
		at  int
		set func(r *trial, v api.Oop) api.Errno
	}{
		{0, func(r *trial, v api.Oop) api.Errno { return r.h.SetSpecial(0, v) }},
		{31, func(r *trial, v api.Oop) api.Errno { return r.h.SetSpecial(31, v) }},
		{63, func(r *trial, v api.Oop) api.Errno { return r.h.SetSpecial(63, v) }},
		{64, func(r *trial, v api.Oop) api.Errno { return r.h.SetClassAt(0, v) }},
		{64 + 'A', func(r *trial, v api.Oop) api.Errno { return r.h.SetClassAt('A', v) }},
		{64 + 4095, func(r *trial, v api.Oop) api.Errno { return r.h.SetClassAt(4095, v) }},
		{64 + 4096, func(r *trial, v api.Oop) api.Errno { _, e := r.h.Push(v); return e }},
		{64 + 4096, func(r *trial, v api.Oop) api.Errno { return r.h.Enqueue(v) }},
	} {
		r := scene(t, "B X A:B", "")
		r.succeeds(c.set(r, r.at('A')))
		r.reaches("AB")
		r.lives("AB", "")
		for i, name := range graph.Form(r.h)[3 : 3+64+4096+r.h.Depth()+r.h.Queued()] {
			if (name == 8) != (i == c.at) || name != 8 && name != 0 {
				t.Errorf("root %d, set at %d: %d", i, c.at, name)
			}
		}
	}
}

// The table of classes does not make an object refer to its class, nor does the number of a class.
func TestClassesAreNoOops(t *testing.T) {
	r := scene(t, "A B", "A")
	r.succeeds(r.h.SetClassAt('A', 9))
	r.reaches("A")
	r.succeeds(r.h.SetClassAt('A', r.at('B')))
	r.reaches("BA")
	r.froms(r.at('A'), nil, 8, thing('A', api.FormatPointers))
}

// Roots first, then breadth first, oop by oop, each object once.
func TestOrderOfReached(t *testing.T) {
	for _, c := range []struct{ text, stack, want string }{
		{"A:B B", "", ""},
		{"A", "A", "A"},
		{"A:B B:C C:D D", "A", "ABCD"}, // a chain
		{"A:B B:C C:D D", "C", "CD"},
		{"A:A", "A", "A"},      // itself
		{"A:AA", "AA", "A"},    // .. more than once
		{"A:B B:A", "A", "AB"}, // rings
		{"A:B B:C C:A", "B", "BCA"},
		{"A:B B:C C:B", "A", "ABC"},
		{"A:BC B:D C:E D E", "A", "ABCDE"}, // breadth first
		{"A:BC B:DE C:F D E F", "A", "ABCDEF"},
		{"A:CB B:D C:E D E", "A", "ACBED"},
		{"A:BC B:D C:E D E", "CA", "CAEBD"}, // roots first
		{"A:BC B:D C:E D E", "EDCBA", "EDCBA"},
		{"A:BBCB B:C C:B", "A", "ABC"}, // named more than once
		{"A:BC B:C C", "AAC", "AC" + "B"},
		{"A:BC B:D C:D D", "A", "ABCD"}, // reached in two ways
		{"A:BC B:D D:C C:E E", "A", "ABCDE"},
		{"A:.#B.C# B C", "A", "ABC"}, // what is no object has no number
		{"A:B B C:D D", "AC", "ACBD"},
		{"A:B C:B B:X X Y:A", "CA", "CABX"}, // what nothing names, though it names
		{"M*BA A B:X X", "M", "MBAX"},       // methods
		{"M* A", "M", "M"},
		{"M*M N*NM", "N", "NM"},
		{"W?XY X:Z Y Z", "W", "WXYZ"}, // weak objects
		{"W?W", "W", "W"},
		{"W?V V?X X", "W", "WVX"},
		{"A:WB W?X X:Y B:C C Y", "A", "AWBXCY"},
		{"E!KV K:X V:Y X Y", "E", "EKVXY"}, // ephemerons
		{"E!K K", "E", "EK"},
		{"E!EV V", "E", "EV"},
		{"E!#V V", "E", "EV"},
		{"E!KV F!VW K V W:E", "F", "FVWEK"},
	} {
		for _, sp := range allSpaces {
			r := scene(t, spaceNames()[sp]+" "+c.text, c.stack)
			r.reaches(c.want)
			if t.Failed() {
				t.Fatalf("%s: %s, stack %s", spaceNames()[sp], c.text, c.stack)
			}
		}
	}
}

// What an object refers to may lie in any space; the number says nothing of it.
func TestReachedAcrossSpaces(t *testing.T) {
	r := scene(t, "pins A:C B:E old C:F D:B eden E:D F:H past G:A future H:G", "A")
	r.reaches("ACFHG")
	r.push(r.at('E'))
	r.reaches("AECDFBHG")
}

// Words and bytes name nothing, whatever they look like.
func TestWordsAndBytesNameNothing(t *testing.T) {
	r := scene(t, "A M*.", "")
	a := r.at('A')
	w := r.of(api.Old, 'W', api.FormatWords, 2)
	b := r.of(api.Old, 'B', api.FormatBytes, 8)
	r.succeeds(r.h.SetWord(w, 1, uint64(a)))
	for i := range 8 {
		r.succeeds(r.h.SetByte(b, i, byte(a>>(8*i))))
	}
	for i := range 3 {
		r.succeeds(r.h.SetByte(r.at('M'), i, byte(a>>(8*i))))
	}
	r.push(r.all("WBM")...)
	r.reaches("WBM")
	r.forms([]uint64{8, 16, 24},
		thing('W', api.FormatWords, 0, uint64(a)),
		thing('B', api.FormatBytes, uint64(a)),
		[]uint64{'M' + 4096*6 + 32768*5, 3, 9, 0, uint64(a)})
}

// A chain so long that the queue grows many times, and an object with very many oops.
func TestMuchThatIsReached(t *testing.T) {
	const n = 100000
	r := begin(t, api.Sizes{Eden: 64, Survivor: 16, Bound: api.MaxBound})
	wide := r.of(api.Old, 'A', api.FormatPointers, api.MaxSlots)
	want := []api.Oop{wide}
	for i := range n {
		o := r.of(api.Old, 'B', api.FormatPointers, 1)
		r.set(want[len(want)-1], 0, o)
		want = append(want, o)
		if i > 0 && i < api.MaxSlots {
			r.set(wide, i, want[1])
		}
	}
	r.push(wide)
	sameList(t, "Reached", graph.Reached(r.h), want)
	living, fired := graph.Strong(r.h)
	sameList(t, "Strong", living, want)
	sameList(t, "fire", fired, nil)
	form, from := graph.Form(r.h), graph.From(r.h, wide)
	sameList(t, "Form", form[:3], []uint64{n + 1, 1, 0})
	sameList(t, "Form", form[3+64+4096+1:], from[2:])
	told := slices.Concat([]uint64{n + 1, 8, 'A' + 4096, api.MaxSlots}, slices.Repeat([]uint64{16}, api.MaxSlots))
	for i := range n {
		told = append(told, 'B'+4096, 1, uint64(8*(i+3)))
	}
	told[len(told)-1] = 0
	sameList(t, "From", from, told)
}
