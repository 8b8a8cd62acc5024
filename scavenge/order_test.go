package scavenge_test

import (
	"testing"

	"palaver/api"
)

// some makes objects of eden without oops, of those names.
func (r *trial) some(names string) []api.Oop {
	r.Helper()
	var l []api.Oop
	for i := range len(names) {
		l = append(l, r.object(api.Eden, names[i]))
	}
	return l
}

// manyRoots names objects of eden by roots of each kind, by noted objects and by other objects. They lie in eden by their letters.
func manyRoots(t *testing.T) *trial {
	r := begin(t, wide())
	l := r.some("ABCDEFGHIJKLMN")
	low, high, pinned := r.object(api.Old, 'o', 0, 0), r.object(api.Old, 'p', 0), r.object(api.Pins, 'q', 0)
	refer := func(name byte, oops ...api.Oop) api.Oop {
		return r.object(api.Eden, name, oops...)
	}
	r.succeeds(r.h.SetSpecial(63, refer('b', l[9], l[8])))
	r.succeeds(r.h.SetSpecial(0, refer('a', l[13])))
	r.succeeds(r.h.SetClassAt(4095, l[1]))
	r.succeeds(r.h.SetClassAt(0, l[3]))
	r.succeeds(r.h.Enqueue(l[7]))
	r.succeeds(r.h.Enqueue(l[6]))
	r.push(l[4], l[2], l[4])
	r.set(pinned, 0, l[12])
	r.set(high, 0, l[10])
	r.set(low, 1, l[0])
	r.set(low, 0, l[5])
	r.notes("qpo")
	return r
}

func TestOrderOfCopies(t *testing.T) {
	r := manyRoots(t)
	r.counts(1, 15, 0, 1)
	r.lies(api.Past, "a1 b1 D1 B1 E1 C1 H1 G1 M1 K1 F1 A1 N1 J1 I1")
	r.roots("abDBECEHG")
	r = manyRoots(t)
	r.counts(0, 15, 15, 1)
	r.lies(api.Old, "o0 p0 a0 b0 D0 B0 E0 C0 H0 G0 M0 K0 F0 A0 N0 J0 I0")
	r.roots("abDBECEHG")
}

// What a noted object names alone comes behind what the roots name, and behind it what the copies name.
func TestOrderOfRootsNotedAndCopies(t *testing.T) {
	r := begin(t, small())
	l := r.some("XYZ")
	r.object(api.Old, 'O', l[1])
	r.push(r.object(api.Eden, 'A', l[0], l[1], l[2]))
	r.counts(1, 4, 0, 0)
	r.lies(api.Past, "A1 Y1 X1 Z1")
}

// Copies are scanned in the order in which they were made, whichever spaces they went to.
func TestOrderOfScanningAcrossSpaces(t *testing.T) {
	for _, c := range []struct{ names, past string }{{"BAC", "A1 C1 Y1 X1 Z1"}, {"ACB", "A1 C1 X1 Z1 Y1"}, {"CBA", "C1 A1 Z1 Y1 X1"}} {
		r := begin(t, wide())
		b := r.aged(r.object(api.Eden, 'B', 0), 1)
		r.push(b)
		r.flip()
		l := r.some("XYZ")
		r.set(b, 0, l[1])
		r.object(api.Eden, 'A', l[0])
		r.object(api.Eden, 'C', l[2])
		_, e := r.h.Pop()
		r.succeeds(e)
		for i := range len(c.names) {
			r.push(r.at(c.names[i]))
		}
		r.counts(1, 6, 1, 0)
		r.lies(api.Past, c.past)
		r.lies(api.Old, "B1")
		r.notes("B")
	}
}

// An object's oops are scanned in their order, and all of them ahead of those of the next one.
func TestOrderOfLevels(t *testing.T) {
	r := begin(t, wide())
	l := r.some("GFEDC")
	b := r.object(api.Eden, 'B', l[4], l[3], l[2])
	r.push(r.object(api.Eden, 'A', l[0], b, l[1], l[2]))
	r.counts(1, 7, 0, 0)
	r.lies(api.Past, "A1 G1 B1 F1 E1 C1 D1")
}

// A chain, so long that the queue grows many times, and each object of it found while it is processed.
func TestLongChain(t *testing.T) {
	r := begin(t, api.Sizes{Eden: 4096, Survivor: 2000, Bound: 64})
	o := api.Oop(0)
	n := 0
	for r.h.Room(api.Eden) >= 3 {
		o = r.object(api.Eden, 'A', o)
		n++
	}
	r.push(o)
	r.counts(1, n, n-2000/3, 0)
	last, _ := r.h.Root(0)
	for i := range n {
		want := api.Past
		if i >= 2000/3 {
			want = api.Old
		}
		if r.h.Space(last) != want {
			t.Fatal(i, r.h.Space(last))
		}
		last, _ = r.h.Slot(last, 0)
	}
	same(t, "end", last, 0)
}

// The queue of objects to be finalized keeps its objects and its order; so does the table of classes.
func TestQueueAndClasses(t *testing.T) {
	r := begin(t, small())
	l := r.some("ABCD")
	for _, i := range []int{2, 0, 2, 1} {
		r.succeeds(r.h.Enqueue(l[i]))
	}
	same(t, "first", r.h.Dequeue(), l[2])
	r.succeeds(r.h.SetClassAt(4095, l[3]))
	r.succeeds(r.h.SetClassAt(17, l[2]))
	r.succeeds(r.h.SetClassAt(18, 9))
	r.counts(1, 4, 0, 0)
	r.lies(api.Past, "C1 D1 A1 B1")
	for class, want := range map[int]string{4095: "D", 17: "C", 18: "#", 0: "."} {
		o, e := r.h.ClassAt(class)
		r.succeeds(e)
		same(t, "class", r.name(o), want)
	}
	same(t, "queued", r.h.Queued(), 3)
	for _, want := range []string{"A", "C", "B", "."} {
		same(t, "queue", r.name(r.h.Dequeue()), want)
	}
}
