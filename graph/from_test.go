package graph_test

import (
	"math"
	"slices"
	"testing"

	"palaver/api"
	"palaver/graph"
)

// What is no object has a name and nothing behind it, whatever the leaves are.
func TestFromWhatIsNoObject(t *testing.T) {
	r := scene(t, "A:B B F G", "A")
	freed, forwarded := r.at('F'), r.at('G')
	r.succeeds(r.h.Free(freed))
	r.succeeds(r.h.Forward(forwarded, r.at('A')))
	for o, name := range map[api.Oop]uint64{
		0: 0, 1: 1, 9: 9, 16 + 2: 18, 778: 778, math.MaxUint64 - 6: math.MaxUint64 - 6, 8*2097151 + 2: 8*2097151 + 2,
		3: 4, 4: 4, 8: 4, 16: 4, 8*2097152 + 2: 4, 1 << 31: 4, math.MaxUint64: 4, math.MaxUint64 - 7: 4,
		freed: 4, forwarded: 4, r.at('A') + 8: 4, r.at('A') + 4: 4,
	} {
		for _, leaves := range [][]int{nil, {}, {0}, {'A', 'B', 'G'}, {-1, 4096}} {
			r.froms(o, leaves, name)
		}
	}
}

// Reachable from that object alone: roots say nothing, and what refers to it is not there.
func TestFromAnObject(t *testing.T) {
	for _, c := range []struct{ text, from, want string }{
		{"A", "A", "A"},
		{"A:A", "A", "A"},
		{"A:BC B:D C:E D E X:A", "A", "ABCDE"},
		{"A:BC B:D C:E D E X:A", "C", "CE"},
		{"A:BC B:DC C:B D", "A", "ABCD"},
		{"A:B B:C C:A", "B", "BCA"},
		{"W?XY X:Z Y Z", "W", "WXYZ"},
		{"E!KV K:X V:Y X Y", "E", "EKVXY"},
		{"M*BA A B:X X", "M", "MBAX"},
		{"M* X", "M", "M"},
		{"A:.#B X B", "A", "AB"},
	} {
		for _, stack := range []string{"", c.from, c.from + c.from} {
			r := scene(t, c.text, stack)
			o := r.at(c.from[0])
			r.asksFrom(o)
			l := graph.From(r.h, o)
			sameList(t, c.text, l[:2], []uint64{uint64(len(c.want)), 8})
			same(t, c.text, r.names(pictureOf(r).reached([]api.Oop{o})), c.want)
		}
	}
}

// Objects of leaves have a class and nothing else, and what they alone refer to is not there.
func TestFromWithLeaves(t *testing.T) {
	pointers := func(class byte, slots ...uint64) []uint64 { return thing(class, api.FormatPointers, slots...) }
	for _, c := range []struct {
		text   string // from A
		leaves string
		want   [][]uint64
	}{
		{"A:B B:C C", "", [][]uint64{pointers('A', 16), pointers('B', 24), pointers('C')}},
		{"A:B B:C C", "B", [][]uint64{pointers('A', 16), leaf('B')}},
		{"A:B B:C C", "BB", [][]uint64{pointers('A', 16), leaf('B')}},                                           // the same one twice
		{"A:B B:C C", "C", [][]uint64{pointers('A', 16), pointers('B', 24), leaf('C')}},                         // at the end
		{"A:B B:C C", "X", [][]uint64{pointers('A', 16), pointers('B', 24), pointers('C')}},                     // no object's
		{"A:B B:C C", "A", [][]uint64{leaf('A')}},                                                               // its own
		{"A:A", "A", [][]uint64{leaf('A')}},                                                                     // ..
		{"A:B B:A", "B", [][]uint64{pointers('A', 16), leaf('B')}},                                              // one that names it
		{"A:B B:C C", "CBA", [][]uint64{leaf('A')}},                                                             // all
		{"A:BC B:D C:B D", "B", [][]uint64{pointers('A', 16, 24), leaf('B'), pointers('C', 16)}},                // reached in two ways
		{"A:BC B:D C:D D", "B", [][]uint64{pointers('A', 16, 24), leaf('B'), pointers('C', 32), pointers('D')}}, // what it refers to is reached in another one
		{"A:BC B:D C:.D D:E E", "B", [][]uint64{pointers('A', 16, 24), leaf('B'), pointers('C', 0, 32), pointers('D', 40), pointers('E')}},
		{"A:BC B:D C:E D E", "CB", [][]uint64{pointers('A', 16, 24), leaf('B'), leaf('C')}},
		{"A:BB#B B:.#A", "B", [][]uint64{pointers('A', 16, 16, 9, 16), leaf('B')}},
		{"A:WE W?X E!KV X K V", "W", [][]uint64{pointers('A', 16, 24), leaf('W'), thing('E', api.FormatEphemeron, 32, 40), pointers('K'), pointers('V')}},
		{"A:WE W?X E!KV X K V", "E", [][]uint64{pointers('A', 16, 24), thing('W', api.FormatWeak, 32), leaf('E'), pointers('X')}},
		{"A:M M*BC B C", "M", [][]uint64{pointers('A', 16), leaf('M')}},
	} {
		r := scene(t, c.text, "")
		leaves := []int{}
		for i := range len(c.leaves) {
			leaves = append(leaves, int(c.leaves[i]))
		}
		for _, o := range pictureOf(r).Walks[api.Old] {
			// Neither the hash nor anything else of a header but the class is seen of leaves.
			r.h.Hash(o)
			r.succeeds(r.h.Note(o))
		}
		r.froms(r.at('A'), leaves, 8, c.want...)
		if t.Failed() {
			t.Fatalf("%s, leaves %s", c.text, c.leaves)
		}
	}
}

// Several objects of one class are leaves, all of them.
func TestFromWithLeavesOfOneClass(t *testing.T) {
	r := scene(t, "A:BCDB B:X C:DY D:C X Y", "")
	for _, name := range []byte("CD") {
		r.succeeds(r.h.SetClass(r.at(name), 'Z'))
	}
	r.froms(r.at('A'), []int{'Z'}, 8,
		thing('A', api.FormatPointers, 16, 24, 32, 16),
		thing('B', api.FormatPointers, 40),
		leaf('Z'),
		leaf('Z'),
		thing('X', api.FormatPointers))
}

// Leaves of all formats, with and without slots, bytes to spare and hashes, are alike.
func TestLeavesOfAllFormats(t *testing.T) {
	for f := api.FormatPointers; f <= api.FormatMethod; f++ {
		for n := range 4 {
			r := scene(t, "A:. X", "")
			var o api.Oop
			switch {
			case f == api.FormatMethod:
				m, e := r.h.AllocMethod(api.Old, 'L', n, 11*n)
				r.succeeds(e)
				o = m
			case f == api.FormatEphemeron && n == 0:
				continue
			default:
				o = r.of(api.Old, 'L', f, n)
			}
			if f != api.FormatMethod || n > 0 {
				r.h.SetSlot(o, n-1, r.at('X'))
			}
			r.h.SetWord(o, 0, 5)
			r.h.SetByte(o, 0, 6)
			r.h.Hash(o)
			r.set(r.at('A'), 0, o)
			r.froms(r.at('A'), []int{'L'}, 8, thing('A', api.FormatPointers, 16), leaf('L'))
			r.froms(o, []int{'L'}, 8, leaf('L'))
			r.asksFrom(o)
		}
	}
}

// Numbers that are no classes are leaves of nothing.
func TestLeavesThatAreNoClasses(t *testing.T) {
	r := scene(t, "A:B B:C C", "")
	r.succeeds(r.h.SetClass(r.at('C'), 0))
	want := [][]uint64{
		thing('A', api.FormatPointers, 16),
		thing('B', api.FormatPointers, 24),
		thing(0, api.FormatPointers),
	}
	for _, leaves := range [][]int{
		{-1}, {4096}, {4096 + 'A', 4096 + 'B'}, {-'A'}, {1<<32 + 'B'}, {'B' - 1<<32}, {math.MinInt, math.MaxInt}, {256 + 'B', 65536 + 'B'},
	} {
		r.froms(r.at('A'), leaves, 8, want...)
	}
	r.froms(r.at('A'), []int{-1, 'B', 4096}, 8, want[0], leaf('B'))
	r.succeeds(r.h.SetClass(r.at('B'), 0))
	r.froms(r.at('A'), []int{0}, 8, want[0], leaf(0))
	r.succeeds(r.h.SetClass(r.at('A'), 4095))
	r.froms(pictureOf(r).Walks[api.Old][0], []int{4095}, 8, []uint64{4095 + 4096, 0})
}

// All classes are leaves, and each of them many times.
func TestVeryManyLeaves(t *testing.T) {
	r := begin(t, api.Sizes{Eden: 64, Survivor: 16, Bound: 1 << 20})
	const n = 60000
	top := r.of(api.Old, 'A', api.FormatPointers, n)
	var want []uint64
	for i := range n {
		r.set(top, i, r.of(api.Old, 'B', api.FormatPointers, 1))
		want = append(want, leaf('B')...)
	}
	var leaves []int
	for i := range 50 * 4096 {
		if class := i % 4096; class != 'A' {
			leaves = append(leaves, class)
		}
	}
	before := slices.Clone(leaves)
	l := graph.From(r.h, top, leaves...)
	sameList(t, "leaves", leaves, before)
	sameList(t, "From", l[:4], []uint64{n + 1, 8, 'A' + 4096, n})
	sameList(t, "From", l[4+n:], want)
}

// Two objects of which one refers to the other have forms of their own, and what is alike has the same form.
func TestFromOfWhatIsAlike(t *testing.T) {
	r := scene(t, "A:BC B:# C:A# X eden D:EF E:# F:D#", "")
	for i, o := range r.all("DEF") {
		r.succeeds(r.h.SetClass(o, int("ABC"[i])+1000))
	}
	for i, o := range r.all("ABC") {
		r.succeeds(r.h.SetClass(o, int("ABC"[i])+1000))
		r.h.Hash(o)
	}
	old, young := pictureOf(r).Walks[api.Old], pictureOf(r).Walks[api.Eden]
	for i := range young {
		sameList(t, "From", graph.From(r.h, young[i]), graph.From(r.h, old[i]))
		sameList(t, "From", graph.From(r.h, young[i], 1000+'A'), graph.From(r.h, old[i], 1000+'A'))
		r.asksFrom(young[i])
		r.asksFrom(old[i], 1000+'A')
	}
	if slices.Equal(graph.From(r.h, old[0]), graph.From(r.h, old[2])) {
		t.Error("A and C are alike")
	}
}
