package graph_test

import (
	"math"
	"slices"
	"testing"

	"palaver/api"
	"palaver/graph"
)

// Nothing but the roots, which are 0.
func TestFormOfAnEmptyHeap(t *testing.T) {
	r := begin(t, small())
	r.forms(nil)
	same(t, "length", len(graph.Form(r.h)), 3+64+4096)
	same(t, "reached", len(graph.Reached(r.h)), 0)
	r.lives("", "")
	// What nothing names leaves no trace.
	r.lay("A:B B W?A old E!A pins C")
	r.forms(nil)
}

// The chapter's example.
func TestExample(t *testing.T) {
	r := begin(t, small())
	o := r.of(api.Eden, 5, api.FormatPointers, 2)
	r.set(o, 0, o)
	r.set(o, 1, 9)
	r.push(o)
	r.asks()
	want := append([]uint64{1, 1, 0}, make([]uint64, 64+4096)...)
	sameList(t, "Form", graph.Form(r.h), append(want, 8, 4101, 2, 8, 9))
}

// The depth of the stack and the length of the queue, whatever is in them.
func TestDepthAndQueue(t *testing.T) {
	r := scene(t, "A B", "")
	for depth := range 4 {
		for queued := range 3 {
			sameList(t, "counts", graph.Form(r.h)[1:3], []uint64{uint64(depth), uint64(queued)})
			same(t, "length", len(graph.Form(r.h)), 3+64+4096+depth+queued+2*len(graph.Reached(r.h)))
			r.asks()
			r.succeeds(r.h.Enqueue(r.at('A')))
		}
		for range 3 {
			r.h.Dequeue()
		}
		r.push(0)
	}
	r = scene(t, "A", "")
	for range api.MaxRoots {
		r.push(9)
	}
	for range 5000 {
		r.succeeds(r.h.Enqueue(r.at('A')))
	}
	l := graph.Form(r.h)
	sameList(t, "counts", l[:3], []uint64{1, api.MaxRoots, 5000})
	sameList(t, "roots", l[3+64+4096:], slices.Concat(slices.Repeat([]uint64{9}, api.MaxRoots), slices.Repeat([]uint64{8}, 5000), leaf('A')))
}

// no are words that are no names of objects, with their names, of a heap with A:### in old, an address F that is freed and one G that is forwarded to A.
func no(r *trial) [][2]uint64 {
	a, f, g := r.at('A'), r.at('F'), r.at('G')
	r.succeeds(r.h.Free(f))
	r.succeeds(r.h.Forward(g, a))
	l := [][2]uint64{}
	for _, v := range []api.Oop{
		0,
		1, 9, math.MaxUint64 - 6, 1<<63 + 1, 1<<63 - 7, a + 1, // numbers
		2, 778, 8*2097151 + 2, a + 2, // Characters
	} {
		l = append(l, [2]uint64{uint64(v), uint64(v)})
	}
	for _, v := range []api.Oop{
		f, g, f + 8, // where objects were
		a + 8, a + 16, a + 24, a + 32, // in the middle of an object
		8, 16, 16 + 8*255, 16 + 8*1150, 8 * 100000, 1<<31 - 8, // where none is
		3, 4, 5, 6, 7, a + 3, a + 4, a + 5, a + 7, 2097152*8 + 2, 1<<63 + 2, 1 << 31, 1<<63 + a, math.MaxUint64, // no oops
	} {
		l = append(l, [2]uint64{uint64(v), 4})
	}
	return l
}

// Each word that names no object, in objects of all formats and in roots of all kinds.
func TestNamesOfWordsThatNameNoObject(t *testing.T) {
	stage := func() *trial {
		return scene(t, "A:### B:#A C?#A D!A# E!#A M*#A F:# G:#", "")
	}
	for i := range no(stage()) {
		r := stage()
		word := no(r)[i]
		v, name := api.Oop(word[0]), word[1]
		for _, c := range []struct {
			name byte
			at   int
		}{{'B', 0}, {'C', 0}, {'D', 1}, {'E', 0}, {'M', 1}} {
			r.spoil(r.at(c.name), c.at, v)
		}
		r.push(v)
		r.push(r.all("BCDEM")...)
		r.forms([]uint64{name, 8, 16, 24, 32, 40},
			thing('B', api.FormatPointers, name, 48),
			thing('C', api.FormatWeak, name, 48),
			thing('D', api.FormatEphemeron, 48, name),
			thing('E', api.FormatEphemeron, name, 48),
			[]uint64{'M' + 4096*6 + 32768*5, 4, 17, name, 48, 0},
			thing('A', api.FormatPointers, 9, 9, 9))
		r.lives("BCDEMA", "")
		r.froms(v, nil, name)
		r.froms(v, []int{'A', 0}, name)
		r.froms(r.at('E'), nil, 8, thing('E', api.FormatEphemeron, name, 16), thing('A', api.FormatPointers, 9, 9, 9))
		r.root(func(o api.Oop) api.Errno { return r.h.SetSpecial(5, o) }, v)
		r.root(func(o api.Oop) api.Errno { return r.h.SetClassAt(5, o) }, v)
		r.asks()
		l := graph.Form(r.h)
		for _, at := range []int{5, 64 + 5, 64 + 4096} {
			same(t, "root", l[3+at], name)
		}
		if t.Failed() {
			t.Fatalf("word %d", v)
		}
	}
}

// An oop in the queue may come to name nothing, too.
func TestNamesInTheQueue(t *testing.T) {
	r := scene(t, "A F G", "")
	for _, o := range r.all("FAG") {
		r.succeeds(r.h.Enqueue(o))
	}
	r.succeeds(r.h.Free(r.at('F')))
	r.succeeds(r.h.Forward(r.at('G'), r.at('A')))
	r.asks()
	l := graph.Form(r.h)
	sameList(t, "counts", l[:3], []uint64{1, 0, 3})
	sameList(t, "queue", l[3+64+4096:][:3], []uint64{4, 8, 4})
}

// Where in pins an object lies again at an address that was forwarded, it is that object.
func TestNameOfAForwardedAddressWithAnObject(t *testing.T) {
	r := scene(t, "T pins F", "F")
	r.succeeds(r.h.Forward(r.at('F'), r.at('T')))
	r.forms([]uint64{4})
	r.lay("pins G")
	r.forms([]uint64{8}, leaf('G'))
}

// The names are the numbers, in the order in which objects are met.
func TestNamesOfObjects(t *testing.T) {
	r := scene(t, "A:BCA B:..C C:D#A D", "CA")
	r.forms([]uint64{8, 16},
		thing('C', api.FormatPointers, 24, 9, 16),
		thing('A', api.FormatPointers, 32, 8, 16),
		thing('D', api.FormatPointers),
		thing('B', api.FormatPointers, 0, 0, 8))
	r.froms(r.at('A'), nil, 8,
		thing('A', api.FormatPointers, 16, 24, 8),
		thing('B', api.FormatPointers, 0, 0, 24),
		thing('C', api.FormatPointers, 32, 9, 8),
		thing('D', api.FormatPointers))
}

// Weak objects and ephemerons keep their formats in a form, and all their oops have names.
func TestFormsOfWeakObjectsAndEphemerons(t *testing.T) {
	r := scene(t, "W?XE X E!KV K V:K", "W")
	want := [][]uint64{
		thing('W', api.FormatWeak, 16, 24),
		thing('X', api.FormatPointers),
		thing('E', api.FormatEphemeron, 32, 40),
		thing('K', api.FormatPointers),
		thing('V', api.FormatPointers, 32),
	}
	r.forms([]uint64{8}, want...)
	r.froms(r.at('W'), nil, 8, want...)
	r.lives("W", "")
}

// bytes fills an object's bytes with 1, 2, ..
func (r *trial) bytes(o api.Oop) {
	r.Helper()
	n, e := r.h.Bytes(o)
	r.succeeds(e)
	for i := range n {
		r.succeeds(r.h.SetByte(o, i, byte(i+1)))
	}
}

// Bytes as the slots have them, with each count of spare ones.
func TestFormsOfBytes(t *testing.T) {
	full := []uint64{0x0807060504030201, 0x100f0e0d0c0b0a09, 0x1817161514131211}
	for n := range 25 {
		for _, sp := range []api.Space{api.Eden, api.Old, api.Pins} {
			r := begin(t, wide())
			b := r.of(sp, 'B', api.FormatBytes, n)
			r.bytes(b)
			r.push(b)
			slots := slices.Clone(full[:(n+7)/8])
			spare := 8*len(slots) - n
			if spare > 0 {
				slots[len(slots)-1] &= 1<<(64-8*spare) - 1
			}
			told := append([]uint64{uint64('B' + 4096*5 + 32768*spare), uint64(len(slots))}, slots...)
			r.forms([]uint64{8}, told)
			r.froms(b, nil, 8, told)
		}
	}
}

func TestFormOfHighBytes(t *testing.T) {
	r := begin(t, wide())
	b := r.of(api.Eden, 'B', api.FormatBytes, 9)
	for i := range 9 {
		r.succeeds(r.h.SetByte(b, i, byte(255-i)))
	}
	r.push(b)
	r.forms([]uint64{8}, []uint64{'B' + 4096*5 + 32768*7, 2, 0xf8f9fafbfcfdfeff, 0xf7})
}

func TestFormsOfWords(t *testing.T) {
	for _, words := range [][]uint64{nil, {0}, {77}, {math.MaxUint64, 16, 9, 1 << 63}} {
		r := begin(t, wide())
		w := r.of(api.Eden, 'W', api.FormatWords, len(words))
		for i, x := range words {
			r.succeeds(r.h.SetWord(w, i, x))
		}
		r.push(w)
		r.forms([]uint64{8}, thing('W', api.FormatWords, words...))
		r.froms(w, nil, 8, thing('W', api.FormatWords, words...))
	}
}

// Methods: how many literals, their names, the bytes; also without literals, without bytes, and with each count of spare ones.
func TestFormsOfMethods(t *testing.T) {
	for literals := range 3 {
		for n := range 18 {
			r := scene(t, "A", "")
			m, e := r.h.AllocMethod(api.Old, 'M', literals, n)
			r.succeeds(e)
			for i := range literals {
				r.set(m, 1+i, r.at('A'))
			}
			r.bytes(m)
			r.push(m)
			slots := make([]uint64, (n+7)/8)
			for i := range n {
				slots[i/8] += uint64(i+1) << (8 * (i % 8))
			}
			spare := 8*len(slots) - n
			told := slices.Concat(
				[]uint64{uint64('M' + 4096*6 + 32768*spare), uint64(1 + literals + len(slots)), uint64(8*literals + 1)},
				slices.Repeat([]uint64{16}, literals),
				slots)
			objects := [][]uint64{told}
			if literals > 0 {
				objects = append(objects, leaf('A'))
			}
			r.forms([]uint64{8}, objects...)
			r.froms(m, nil, 8, objects...)
		}
	}
}

// Of a header, Form leaves out the age, the mark and the note; From leaves out the hash, too.
func TestHeadersInForms(t *testing.T) {
	for _, hashed := range []bool{false, true} {
		for _, age := range []int{0, 1, 15} {
			for _, marked := range []bool{false, true} {
				for _, noted := range []bool{false, true} {
					r := scene(t, "pins X", "")
					o, e := r.h.Copy(r.of(api.Old, 'B', api.FormatBytes, 3), api.Pins, age)
					r.succeeds(e)
					r.succeeds(r.h.SetClass(o, 4095))
					told := []uint64{4095 + 4096*5 + 32768*5, 1, 0}
					r.push(o)
					if hashed {
						r.succeeds(r.h.SetGiven(api.MaxHash - 1))
						r.h.Hash(o)
						told[0] += 262144 * api.MaxHash
					}
					r.h.Mark(o, marked)
					if noted {
						r.succeeds(r.h.Note(o))
					}
					same(t, "age", r.head(o).Age, age)
					r.forms([]uint64{8}, told)
					told[0] &= 1<<18 - 1
					r.froms(o, nil, 8, told)
				}
			}
		}
	}
}

// Each class and each format.
func TestClassesAndFormatsInForms(t *testing.T) {
	for _, class := range []int{0, 1, 2, 4094, 4095} {
		for f := api.FormatPointers; f <= api.FormatWords; f++ {
			r := begin(t, wide())
			o, e := r.h.Alloc(api.Eden, class, f, 1)
			r.succeeds(e)
			r.push(o)
			r.forms([]uint64{8}, []uint64{uint64(class) + 4096*uint64(f), 1, 0})
			r.froms(o, nil, 8, []uint64{uint64(class) + 4096*uint64(f), 1, 0})
			r.froms(o, []int{class}, 8, []uint64{uint64(class) + 4096, 0})
		}
	}
}
