package compact_test

import (
	"math"
	"slices"
	"testing"

	"palaver/api"
	"palaver/compact"
)

func TestErrorsHaveTheirNumbers(t *testing.T) {
	r := scene(t, "eden Y old A:# B", "")
	check := func() api.Errno {
		e, _ := compact.Check(r.h)
		return e
	}
	same(t, "sound", check(), 0)
	r.h.Mark(r.at('B'), true)
	same(t, "marked", check(), 1)
	r.spoil(r.at('A'), 0, r.at('Y'))
	same(t, "not noted", check(), 44)
	r.spoil(r.at('A'), 0, 3)
	same(t, "no oop", check(), 42)
	r.push(3)
	same(t, "no root", check(), 45)
}

// Heaps that are sound, with each kind of word in each kind of root and object.
func TestSoundHeaps(t *testing.T) {
	begin(t, small()).sound()
	begin(t, api.Sizes{Eden: 64, Survivor: 16, Bound: 64}).sound()
	r := scene(t, "past P:. future F:P eden E:F W?EW. D!.E M*ED N* old O:E V?EO C!PE L*F Q:O pins I:E J?E K!O H*E G:I", "PE")
	for _, v := range []api.Oop{0, 1, 9, math.MaxUint64 - 6, 1<<63 + 1, 2, 778, 2097151*8 + 2, r.at('P'), r.at('F'), r.at('I')} {
		r.push(v)
		r.set(r.at('O'), 0, v)
		r.set(r.at('W'), 0, v)
		r.succeeds(r.h.SetSpecial(0, v))
		r.succeeds(r.h.SetClassAt(4095, v))
		r.sound()
	}
	r.succeeds(r.h.Enqueue(r.at('W')))
	r.sound()
	// What words and bytes have is not asked for.
	w := r.of(api.Old, 'X', api.FormatWords, 3)
	for i, v := range []api.Oop{3, math.MaxUint64, r.at('E')} {
		r.succeeds(r.h.SetWord(w, i, uint64(v)))
	}
	b := r.of(api.Old, 'Y', api.FormatBytes, 8)
	r.succeeds(r.h.SetByte(b, 0, byte(r.at('E'))))
	r.succeeds(r.h.SetByte(b, 1, byte(r.at('E')>>8)))
	r.succeeds(r.h.SetByte(r.at('L'), 0, 3))
	r.sound()
	// Old objects may be noted without need.
	r.succeeds(r.h.Note(r.at('Q')))
	r.sound()
}

// badWords are those of no that may stand nowhere.
func badWords(r *trial) []api.Oop {
	words := no(r)
	return slices.DeleteFunc(words, pictureOf(r).mayStand)
}

func TestRootsThatMayNotBe(t *testing.T) {
	stage := func() *trial { return scene(t, "A:### F:# G:#", "A") }
	n := 0
	for i := range badWords(stage()) {
		for kind := range rootKinds() {
			r := stage()
			v := badWords(r)[i]
			r.root(func(o api.Oop) api.Errno { return rootKinds()[kind](r.h, o) }, v)
			r.checks(api.ErrHeapRoot, ".")
			if t.Failed() {
				t.Fatalf("%s: word %d", kind, v)
			}
			n++
		}
	}
	if n < 8*15 {
		t.Error("hardly anything was tried:", n)
	}
}

// An oop that may not be, in each space, in each format, the first, the last or another one.
func TestOopsThatMayNotBe(t *testing.T) {
	for _, sp := range allSpaces {
		for _, object := range []string{"X:###", "X?###", "X!###", "X*###"} {
			stage := func() *trial {
				return scene(t, spaceNames()[sp]+" "+object+" old A:### F:# G:#", "A")
			}
			first := 0
			if object[1] == '*' {
				first = 1
			}
			for i := range badWords(stage()) {
				r := stage()
				v := badWords(r)[i]
				r.sound()
				r.spoil(r.at('X'), first+i%3, v)
				r.checks(api.ErrHeapOop, "X")
				// Who lives and who doesn't makes no difference, nor who is noted.
				r.push(r.at('X'))
				r.checks(api.ErrHeapOop, "X")
				if r.h.Note(r.at('X')) == api.OK {
					r.checks(api.ErrHeapOop, "X")
				}
				if t.Failed() {
					t.Fatalf("%s in space %d: word %d", object, sp, v)
				}
			}
		}
	}
}

// An old object that refers to a young one is noted: by whatever oop, and in old and in pins.
func TestOldObjectsThatAreNotNoted(t *testing.T) {
	for _, old := range []string{"old", "pins"} {
		for _, young := range []string{"eden", "past", "future"} {
			for _, object := range []string{"X:###", "X?###", "X!###", "X*###"} {
				for i := range 3 {
					r := scene(t, young+" Y "+old+" "+object, "")
					if object[1] == '*' {
						i++
					}
					r.spoil(r.at('X'), i, r.at('Y'))
					r.checks(api.ErrHeapKind, "X")
					r.succeeds(r.h.Note(r.at('X')))
					r.sound()
					if t.Failed() {
						t.Fatal(young, old, object)
					}
				}
			}
		}
	}
	// Young objects need not be noted, nor old ones that refer to old ones.
	r := scene(t, "past P:# future F:# eden E:# old O:# pins I:#", "")
	for _, c := range []string{"EF", "FP", "PE", "EO", "FI", "OI", "IO", "OO", "II", "EE"} {
		r.spoil(r.at(c[0]), 0, r.at(c[1]))
		r.sound()
	}
}

func TestMarkedObjects(t *testing.T) {
	for _, sp := range allSpaces {
		for _, object := range []string{"X:#", "X", "X?#", "X!#", "X*#", "X*"} {
			r := scene(t, spaceNames()[sp]+" A "+object+" B", "")
			r.h.Mark(r.at('X'), true)
			r.checks(api.ErrArg, "X")
			r.h.Mark(r.at('X'), false)
			r.sound()
		}
		if sp == api.Past {
			continue
		}
		for _, f := range []api.Format{api.FormatWords, api.FormatBytes} {
			r := begin(t, wide())
			o := r.of(sp, 'X', f, 1)
			r.h.Mark(o, true)
			r.checks(api.ErrArg, "X")
		}
	}
}

// Within an object: oops that may not be, then not being noted, then the mark, in whatever order they stand in it.
func TestOrderOfErrorsWithinAnObject(t *testing.T) {
	for _, first := range []int{0, 1} {
		r := scene(t, "eden Y old X:## A", "")
		x := r.at('X')
		r.h.Mark(x, true)
		r.checks(api.ErrArg, "X")
		r.spoil(x, first, r.at('Y'))
		r.checks(api.ErrHeapKind, "X")
		r.spoil(x, 1-first, 3)
		r.checks(api.ErrHeapOop, "X")
		r.push(r.at('A') + 8)
		r.checks(api.ErrHeapRoot, ".")
		_, e := r.h.Pop()
		r.succeeds(e)
		r.set(x, 1-first, 9)
		r.checks(api.ErrHeapKind, "X")
		r.succeeds(r.h.Note(x))
		r.checks(api.ErrArg, "X")
		r.h.Mark(x, false)
		r.sound()
	}
}

// Between objects: the first one by its space and in it by its address, whatever is wrong with it.
func TestOrderOfErrorsBetweenObjects(t *testing.T) {
	faults := []struct {
		make func(r *trial, o api.Oop)
		err  api.Errno
	}{
		{func(r *trial, o api.Oop) { r.spoil(o, 0, 3) }, api.ErrHeapOop},
		{func(r *trial, o api.Oop) { r.spoil(o, 0, r.at('Y')) }, api.ErrHeapKind},
		{func(r *trial, o api.Oop) { r.h.Mark(o, true) }, api.ErrArg},
	}
	const names = "EGPQFHOVIJ"
	for i := range len(names) {
		for j := i + 1; j < len(names); j++ {
			for _, one := range faults {
				for _, other := range faults {
					// The first faulty one is in eden, past or future: there nothing is asked of notes.
					if one.err == api.ErrHeapKind && i < 6 || other.err == api.ErrHeapKind && j < 6 {
						continue
					}
					r := scene(t, "past P:# Q:# future F:# H:# eden Y E:# G:# old O:# V:# pins I:# J:#", "EJ")
					other.make(r, r.at(names[j]))
					r.checks(other.err, names[j:j+1])
					one.make(r, r.at(names[i]))
					r.checks(one.err, names[i:i+1])
				}
			}
			if t.Failed() {
				t.Fatal(names[i:i+1], names[j:j+1])
			}
		}
	}
}

// The spaces go in their order, also where past lies behind the future space.
func TestOrderOfErrorsBehindAFlip(t *testing.T) {
	for flips := range 3 {
		r := begin(t, wide())
		for range flips {
			r.flip()
		}
		r.lay("past P:# future F:#")
		r.h.Mark(r.at('F'), true)
		r.checks(api.ErrArg, "F")
		r.h.Mark(r.at('P'), true)
		r.checks(api.ErrArg, "P")
	}
}

// Roots come ahead of all objects, and tell no object.
func TestRootsComeFirst(t *testing.T) {
	r := scene(t, "eden E:# old A:#", "E")
	r.h.Mark(r.at('E'), true)
	r.spoil(r.at('A'), 0, 3)
	r.checks(api.ErrArg, "E")
	r.succeeds(r.h.Enqueue(r.at('A')))
	a := r.at('A')
	r.succeeds(r.h.Free(a))
	e, o := compact.Check(r.h)
	same(t, "error", e, api.ErrHeapRoot)
	same(t, "object", o, 0)
	same(t, "queue", r.h.Dequeue(), a)
	r.checks(api.ErrArg, "E")
}
