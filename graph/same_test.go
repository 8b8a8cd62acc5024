package graph_test

import (
	"math"
	"testing"

	"palaver/api"
	"palaver/graph"
)

// stage is a heap with something of each kind, and roots of each kind.
func stage(t *testing.T, sp string) *trial {
	t.Helper()
	r := scene(t, sp+" A:BC#. B:A C:B W?AX. E!BA M*A# X", "AW#")
	r.laySecond()
	return r
}

// laySecond lays what the text of a scene can't tell.
func (r *trial) laySecond() {
	r.Helper()
	y := r.of(api.Old, 'Y', api.FormatBytes, 11)
	r.bytes(y)
	v := r.of(api.Old, 'V', api.FormatWords, 2)
	r.succeeds(r.h.SetWord(v, 0, 77))
	r.bytes(r.at('M'))
	r.succeeds(r.h.SetSpecial(7, r.at('E')))
	r.succeeds(r.h.SetClassAt(9, r.at('M')))
	r.succeeds(r.h.Enqueue(v))
	r.succeeds(r.h.Enqueue(y))
	_, e := r.h.Hash(r.at('B'))
	r.succeeds(e)
}

func sameForms(t *testing.T, what string, a, b *trial, want bool) {
	t.Helper()
	before, other := pictureOf(a), pictureOf(b)
	same(t, what, graph.Same(a.h, b.h), want)
	same(t, what+", the other way round", graph.Same(b.h, a.h), want)
	same(t, what+", with itself", graph.Same(b.h, b.h), true)
	samePicture(t, pictureOf(a), before)
	samePicture(t, pictureOf(b), other)
}

// What differs in one thing alone differs.
func TestSameOfWhatDiffers(t *testing.T) {
	for what, change := range map[string]func(r *trial) api.Errno{
		"a number":              func(r *trial) api.Errno { return r.h.SetSlot(r.at('A'), 2, 17) },
		"a sign":                func(r *trial) api.Errno { return r.h.SetSlot(r.at('A'), 2, math.MaxUint64-6) },
		"a Character":           func(r *trial) api.Errno { return r.h.SetSlot(r.at('A'), 2, 10) },
		"no number":             func(r *trial) api.Errno { return r.h.SetSlot(r.at('A'), 2, 0) },
		"a number for 0":        func(r *trial) api.Errno { return r.h.SetSlot(r.at('A'), 3, 1) },
		"a number for an oop":   func(r *trial) api.Errno { return r.h.SetSlot(r.at('C'), 0, 9) },
		"an oop":                func(r *trial) api.Errno { return r.h.SetSlot(r.at('C'), 0, r.at('A')) },
		"an oop to itself":      func(r *trial) api.Errno { return r.h.SetSlot(r.at('C'), 0, r.at('C')) },
		"a weak oop":            func(r *trial) api.Errno { return r.h.SetSlot(r.at('W'), 1, 0) },
		"a key":                 func(r *trial) api.Errno { return r.h.SetSlot(r.at('E'), 0, r.at('A')) },
		"a value":               func(r *trial) api.Errno { return r.h.SetSlot(r.at('E'), 1, r.at('B')) },
		"a literal":             func(r *trial) api.Errno { return r.h.SetSlot(r.at('M'), 1, r.at('B')) },
		"a literal's number":    func(r *trial) api.Errno { return r.h.SetSlot(r.at('M'), 2, 1) },
		"a class":               func(r *trial) api.Errno { return r.h.SetClass(r.at('B'), 'C') },
		"class 0":               func(r *trial) api.Errno { return r.h.SetClass(r.at('Y'), 0) },
		"a method's class":      func(r *trial) api.Errno { return r.h.SetClass(r.at('M'), 4095) },
		"weak":                  func(r *trial) api.Errno { return r.h.SetFormat(r.at('A'), api.FormatWeak) },
		"an ephemeron":          func(r *trial) api.Errno { return r.h.SetFormat(r.at('W'), api.FormatEphemeron) },
		"an ephemeron no more":  func(r *trial) api.Errno { return r.h.SetFormat(r.at('E'), api.FormatPointers) },
		"a hash":                func(r *trial) api.Errno { _, e := r.h.Hash(r.at('A')); return e },
		"a byte":                func(r *trial) api.Errno { return r.h.SetByte(r.at('Y'), 0, 0) },
		"a later byte":          func(r *trial) api.Errno { return r.h.SetByte(r.at('Y'), 7, 255) },
		"the last byte":         func(r *trial) api.Errno { return r.h.SetByte(r.at('Y'), 10, 12) },
		"a method's byte":       func(r *trial) api.Errno { return r.h.SetByte(r.at('M'), 0, 2) },
		"a method's last byte":  func(r *trial) api.Errno { return r.h.SetByte(r.at('M'), 2, 0) },
		"a word":                func(r *trial) api.Errno { return r.h.SetWord(r.at('V'), 0, 78) },
		"a word's highest bit":  func(r *trial) api.Errno { return r.h.SetWord(r.at('V'), 1, 1<<63) },
		"the first special":     func(r *trial) api.Errno { return r.h.SetSpecial(0, 9) },
		"the last special":      func(r *trial) api.Errno { return r.h.SetSpecial(63, r.at('A')) },
		"a special":             func(r *trial) api.Errno { return r.h.SetSpecial(7, r.at('A')) },
		"the first class":       func(r *trial) api.Errno { return r.h.SetClassAt(0, 2) },
		"the last class":        func(r *trial) api.Errno { return r.h.SetClassAt(4095, 1) },
		"a class's object":      func(r *trial) api.Errno { return r.h.SetClassAt(9, 0) },
		"the first root":        func(r *trial) api.Errno { return r.h.SetRoot(0, r.at('B')) },
		"the last root":         func(r *trial) api.Errno { return r.h.SetRoot(2, 17) },
		"a deeper stack":        func(r *trial) api.Errno { _, e := r.h.Push(0); return e },
		"one that is less deep": func(r *trial) api.Errno { _, e := r.h.Pop(); return e },
		"a longer queue":        func(r *trial) api.Errno { return r.h.Enqueue(r.at('A')) },
		"a shorter queue":       func(r *trial) api.Errno { r.h.Dequeue(); return api.OK },
		"an object that is gone": func(r *trial) api.Errno {
			return r.h.Free(r.at('X'))
		},
		"a queue in another order": func(r *trial) api.Errno { return r.h.Enqueue(r.h.Dequeue()) },
	} {
		r := stage(t, "old")
		r.succeeds(change(r))
		sameForms(t, what, stage(t, "old"), r, false)
	}
}

// Hashes that are not the same.
func TestSameOfHashes(t *testing.T) {
	one, other := scene(t, "A", "A"), scene(t, "A", "A")
	one.h.Hash(one.at('A'))
	other.succeeds(other.h.SetGiven(1))
	other.h.Hash(other.at('A'))
	sameForms(t, "hashes 1 and 2", one, other, false)
	other = scene(t, "X A", "A")
	other.h.Hash(other.at('A'))
	sameForms(t, "hashes 1 and 1", one, other, true)
}

// Sizes that are not the same though all slots are.
func TestSameOfSizes(t *testing.T) {
	build := func(make func(r *trial) (api.Oop, api.Errno)) *trial {
		r := begin(t, wide())
		o, e := make(r)
		r.succeeds(e)
		r.push(o)
		return r
	}
	bytes := func(n int) *trial {
		return build(func(r *trial) (api.Oop, api.Errno) { return r.h.Alloc(api.Eden, 5, api.FormatBytes, n) })
	}
	of := func(f api.Format, n int) *trial {
		return build(func(r *trial) (api.Oop, api.Errno) { return r.h.Alloc(api.Eden, 5, f, n) })
	}
	method := func(literals, n int) *trial {
		return build(func(r *trial) (api.Oop, api.Errno) { return r.h.AllocMethod(api.Eden, 5, literals, n) })
	}
	sameForms(t, "3 and 3 bytes", bytes(3), bytes(3), true)
	sameForms(t, "3 and 4 bytes", bytes(3), bytes(4), false)
	sameForms(t, "0 and 1 bytes", bytes(0), bytes(1), false)
	sameForms(t, "8 and 9 bytes", bytes(8), bytes(9), false)
	sameForms(t, "8 bytes and a word", bytes(8), of(api.FormatWords, 1), false)
	sameForms(t, "a word and an oop", of(api.FormatWords, 1), of(api.FormatPointers, 1), false)
	sameForms(t, "an oop and two", of(api.FormatPointers, 1), of(api.FormatPointers, 2), false)
	sameForms(t, "a literal and bytes", method(1, 0), method(0, 8), false)
	sameForms(t, "bytes of methods", method(1, 2), method(1, 3), false)
	sameForms(t, "methods", method(2, 5), method(2, 5), true)
}

// The same roots, of which one belongs to the stack here and to the queue there.
func TestSameOfDepthsAlone(t *testing.T) {
	build := func(depth int) *trial {
		r := scene(t, "A B C", "ABC"[:depth])
		for _, o := range r.all("ABC"[depth:]) {
			r.succeeds(r.h.Enqueue(o))
		}
		return r
	}
	for one := range 4 {
		for other := range 4 {
			sameForms(t, "depths", build(one), build(other), one == other)
		}
	}
}

// What differs in addresses, spaces, sizes, ages, marks, notes, hashes to come and objects that are not reached is the same.
func TestSameOfWhatLooksAlike(t *testing.T) {
	one := stage(t, "old")
	sameForms(t, "the same once more", one, stage(t, "old"), true)
	for _, sp := range allSpaces {
		sameForms(t, spaceNames()[sp], one, stage(t, spaceNames()[sp]), true)
	}
	other := scene(t, "T:U#T U eden Z old X pins M*A# W?AX. past C:B eden E!BA old S B:A A:BC#.", "AW#")
	other.laySecond()
	sameForms(t, "addresses", one, other, true)
	for what, change := range map[string]func(r *trial){
		"marks":  func(r *trial) { r.h.Mark(r.at('A'), true) },
		"notes":  func(r *trial) { r.succeeds(r.h.Note(r.at('B'))) },
		"hashes": func(r *trial) { r.succeeds(r.h.SetGiven(100)) },
		"others": func(r *trial) { r.lay("S:TA T:S") },
		"slots":  func(r *trial) { r.set(r.at('A'), 2, 17); r.set(r.at('A'), 2, 9) },
		"ages": func(r *trial) {
			before := r.at('B')
			after, e := r.h.Copy(before, api.Future, 9)
			r.succeeds(e)
			for _, o := range r.all("ACE") {
				r.succeeds(r.h.Replace(o, replacing(before, after)))
			}
			r.succeeds(r.h.Free(before))
			same(t, "age", r.head(r.at('B')).Age, 9)
		},
		"what was on the stack": func(r *trial) {
			r.push(r.at('X'))
			_, e := r.h.Pop()
			r.succeeds(e)
		},
		"what was in the queue": func(r *trial) {
			for range 3 {
				r.succeeds(r.h.Enqueue(r.h.Dequeue()))
				r.succeeds(r.h.Enqueue(r.h.Dequeue()))
			}
		},
	} {
		r := stage(t, "old")
		change(r)
		sameForms(t, what, one, r, true)
	}
}

// All words that name nothing have one name.
func TestSameOfBadWords(t *testing.T) {
	build := func(v func(a api.Oop) api.Oop) *trial {
		r := scene(t, "X A:#", "A")
		r.spoil(r.at('A'), 0, v(r.at('A')))
		return r
	}
	bad := build(func(api.Oop) api.Oop { return 3 })
	middle := build(func(a api.Oop) api.Oop { return a + 8 })
	four := build(func(api.Oop) api.Oop { return 4 })
	sameForms(t, "a bad word and an address", bad, middle, true)
	sameForms(t, "bad words", bad, four, true)
	sameForms(t, "a bad word and 0", bad, build(func(api.Oop) api.Oop { return 0 }), false)
	sameForms(t, "a bad word and a number", bad, scene(t, "A:#", "A"), false)
	// 16 is no address of an object there, but the name of the second one here.
	sameForms(t, "a name", build(func(api.Oop) api.Oop { return 16 }), scene(t, "A:B B", "A"), false)
}
