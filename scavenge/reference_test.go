package scavenge_test

import (
	"fmt"
	"math"
	"slices"
	"testing"

	"palaver/api"
)

// All references to one object become references to its one copy, wherever they stand.
func TestOneObjectNamedFromManyPlaces(t *testing.T) {
	for tenure := range 2 {
		r := begin(t, wide())
		x := r.object(api.Eden, 'X')
		a := r.object(api.Eden, 'A', x, x)
		r.object(api.Old, 'O', x, 9, x)
		r.object(api.Pins, 'P', a, x)
		r.push(x, a, x)
		r.succeeds(r.h.SetSpecial(7, x))
		r.succeeds(r.h.SetClassAt(7, x))
		r.succeeds(r.h.Enqueue(x))
		r.counts(tenure, 2, 2-2*tenure, 0)
		r.roots("XXXAXX")
		r.refers('A', "XX")
		r.refers('O', "X#X")
		r.refers('P', "AX")
		same(t, "where it was", r.h.Is(x), false)
	}
}

func TestObjectsThatNameThemselves(t *testing.T) {
	for tenure := range 2 {
		r := begin(t, wide())
		a := r.object(api.Eden, 'A', 0, 0)
		r.set(a, 0, a)
		r.set(a, 1, a)
		r.push(a)
		b := r.object(api.Eden, 'B', 0) // by which nobody else comes to it
		r.set(b, 0, b)
		r.counts(tenure, 1, 1-tenure, 1)
		r.refers('A', "AA")
		r.notes("")
		same(t, "what only names itself", r.at('B'), 0)
	}
}

func TestRings(t *testing.T) {
	for tenure := range 2 {
		r := begin(t, wide())
		c := r.object(api.Eden, 'C', 0)
		b := r.object(api.Eden, 'B', c)
		a := r.object(api.Eden, 'A', b)
		r.set(c, 0, a)
		r.object(api.Old, 'O', b)
		lost := r.object(api.Eden, 'L', 0)
		r.set(lost, 0, r.object(api.Eden, 'M', lost))
		r.counts(tenure, 3, 3-3*tenure, 2)
		r.refers('O', "B")
		r.refers('B', "C")
		r.refers('C', "A")
		r.refers('A', "B")
	}
}

// A ring through old and young objects, from which roots are far.
func TestRingThroughOldAndYoung(t *testing.T) {
	r := begin(t, wide())
	o := r.object(api.Old, 'O', 0)
	a := r.object(api.Eden, 'A', o)
	r.set(o, 0, a)
	r.counts(1, 1, 0, 0)
	r.notes("O")
	r.counts(1, 1, 1, 0)
	r.notes("")
	r.refers('O', "A")
	r.refers('A', "O")
}

// What only an old object names that is not noted isn't found.
func TestOldObjectsThatAreNotNotedAreNotScanned(t *testing.T) {
	r := begin(t, wide())
	a := r.object(api.Eden, 'A')
	o := r.object(api.Old, 'O', 0)
	r.lay(o, 0, a)
	r.push(o)
	r.counts(1, 0, 0, 1)
	r.refers('O', "#")
	v, _ := r.h.Slot(o, 0)
	same(t, "oop", v, a)
}

// Weak slots and ephemerons hold what they name, as all oops do.
func TestWeakSlotsAndEphemerons(t *testing.T) {
	for _, sp := range []api.Space{api.Eden, api.Old, api.Pins} {
		for _, f := range []api.Format{api.FormatWeak, api.FormatEphemeron} {
			for tenure := range 2 {
				r := begin(t, wide())
				l := r.some("KVX")
				w := r.formed(sp, 'W', f, l[0], 9, l[1], l[2])
				r.h.Hash(w)
				r.push(w)
				n := 3
				if sp == api.Eden {
					n = 4
				}
				r.counts(tenure, n, n-n*tenure, 0)
				r.refers('W', "K#VX")
				x := r.head(r.at('W'))
				same(t, "format", x.Format, f)
				same(t, "hash", x.Hash, 1)
				same(t, "queued", r.h.Queued(), 0)
			}
		}
	}
}

// A method's first oop tells how many literals it has; the others are scanned.
func TestMethods(t *testing.T) {
	for _, sp := range []api.Space{api.Eden, api.Old, api.Pins} {
		for tenure := range 2 {
			r := begin(t, wide())
			l := r.some("XY")
			r.push(r.method(sp, 'M', "eleven bytes", l[1], 17, l[0]), r.method(sp, 'N', ""), r.method(sp, 'Q', "q"))
			_, e := r.run(tenure)
			r.succeeds(e)
			r.refers('M', "#Y#X")
			for name, want := range map[byte]struct {
				count api.Oop
				bytes string
			}{'M': {25, "eleven bytes"}, 'N': {1, ""}, 'Q': {1, "q"}} {
				v, e := r.h.Slot(r.at(name), 0)
				r.succeeds(e)
				same(t, "count", v, want.count)
				var b []byte
				for _, w := range restOf(r.h, r.at(name)) {
					b = append(b, byte(w))
				}
				same(t, "bytes", string(b), want.bytes)
			}
		}
	}
}

// Words and bytes are no references, though they look like some; and what has no slots is kept like all else.
func TestObjectsWithoutOops(t *testing.T) {
	for tenure := range 2 {
		r := begin(t, wide())
		a := r.object(api.Eden, 'A')
		r.push(a)
		w := r.of(api.Eden, 'W', api.FormatWords, 2)
		r.succeeds(r.h.SetWord(w, 0, uint64(a)))
		r.succeeds(r.h.SetWord(w, 1, math.MaxUint64))
		b := r.of(api.Eden, 'B', api.FormatBytes, 9)
		for i := range 9 {
			r.succeeds(r.h.SetByte(b, i, byte(uint64(a)>>(8*i))|byte(i/8)))
		}
		r.push(w, b, r.of(api.Eden, 'V', api.FormatWords, 0), r.of(api.Eden, 'C', api.FormatBytes, 0), r.of(api.Eden, 'E', api.FormatWeak, 0))
		r.counts(tenure, 6, 6-6*tenure, 0)
		r.roots("AWBVCE")
		for name, want := range map[byte][]uint64{'W': {uint64(a), math.MaxUint64}, 'B': {uint64(a), 0, 0, 0, 0, 0, 0, 0, 1}, 'V': nil, 'C': nil, 'E': nil, 'A': nil} {
			if got := restOf(r.h, r.at(name)); !slices.Equal(got, want) {
				t.Errorf("%c: %v, not %v", name, got, want)
			}
		}
		x := r.head(r.at('B'))
		same(t, "slots", x.Slots, 2)
		same(t, "spare", x.Spare, 7)
	}
}

// A copy has its original's header, but for the age, and no mark.
func TestHeadersOfCopies(t *testing.T) {
	for tenure := range 2 {
		r := begin(t, small())
		a := r.object(api.Eden, 'A', 9)
		b := r.object(api.Eden, 'B', a)
		r.h.Hash(b)
		r.h.Hash(a)
		r.h.Mark(a, true)
		r.push(b)
		r.counts(tenure, 2, 2-2*tenure, 0)
		same(t, "header", r.head(r.at('A')), api.Header{Class: 'A', Format: api.FormatPointers, Hash: 2, Age: tenure, Slots: 1})
		same(t, "header", r.head(r.at('B')), api.Header{Class: 'B', Format: api.FormatPointers, Hash: 1, Age: tenure, Slots: 1})
		same(t, "given", r.h.Given(), 2)
	}
}

// Objects that are in the future space ahead of the run stay where they are, whoever names them, and their oops are not scanned.
func TestObjectsInTheFutureSpaceAhead(t *testing.T) {
	for _, by := range []string{"root", "noted", "copy in past", "copy in old", "nobody"} {
		r := begin(t, small())
		x, y := r.object(api.Eden, 'X'), r.object(api.Eden, 'Y')
		f := r.object(api.Future, 'F', x, y, 0)
		r.set(f, 2, f)
		tenure := 1
		switch by {
		case "root":
			r.push(f)
		case "noted":
			r.object(api.Old, 'O', f)
		case "copy in past":
			r.push(r.object(api.Eden, 'A', f))
		case "copy in old":
			r.push(r.object(api.Eden, 'A', f))
			tenure = 0
		}
		r.push(y)
		got, e := r.run(tenure)
		r.succeeds(e)
		same(t, by+": X is gone", got.Freed, 1)
		same(t, by+": where it is", r.at('F'), f)
		same(t, by+": space", r.h.Space(f), api.Past)
		same(t, by+": age", r.head(f).Age, 0)
		// As they were, though Y is elsewhere now.
		if l := oopsOf(t, r.h, f); !slices.Equal(l, []api.Oop{x, y, f}) {
			t.Errorf("%s: %v", by, l)
		}
		r.refers('F', "##F")
		switch by {
		case "noted":
			r.refers('O', "F")
			r.notes("O")
		case "copy in past":
			r.refers('A', "F")
			r.notes("")
		case "copy in old":
			r.refers('A', "F")
			r.notes("A")
		}
	}
}

// The next run finds them in past, like all others.
func TestObjectsInTheFutureSpaceAndTheNextRun(t *testing.T) {
	r := begin(t, small())
	g := r.object(api.Future, 'G')
	r.push(r.object(api.Future, 'F', g))
	r.object(api.Future, 'H')
	r.counts(1, 0, 0, 0)
	r.lies(api.Past, "G0 F0 H0")
	r.counts(1, 2, 0, 1)
	r.lies(api.Past, "F1 G1")
}

// Words that name no object stay as they are, and nothing is found by them.
func TestWordsThatNameNoObject(t *testing.T) {
	r := begin(t, wide())
	a := r.object(api.Eden, 'A', 9, 9, 9)
	o := r.object(api.Old, 'O', 0)
	p := r.object(api.Pins, 'P')
	freed := r.object(api.Eden, 'F')
	r.succeeds(r.h.Free(freed))
	for _, v := range []api.Oop{
		a + 8, a + 16, a + 24, a + 32, o + 8, o + 16, p + 8, freed, freed + 8, // in the middle of objects, or where one was
		8, 16 + 8*255, 16 + 8*256, 16 + 8*400, 16 + 8*1023, 16 + 8*1150, 8 * 100000, 1<<31 - 8, // where none is
		1, 9, math.MaxUint64 - 6, 2, 778, 2097151*8 + 2, // numbers and Characters
		3, 4, 5, 6, 7, a + 3, a + 4, 2097152*8 + 2, 1 << 31, math.MaxUint64, // no oops
	} {
		for tenure := range 2 {
			r := begin(t, wide())
			same(t, "A", r.object(api.Eden, 'A', 9, 9, 9), a)
			same(t, "O", r.object(api.Old, 'O', 0), o)
			same(t, "P", r.object(api.Pins, 'P'), p)
			r.succeeds(r.h.Free(r.object(api.Eden, 'F')))
			r.lay(o, 0, v)
			r.succeeds(r.h.Note(o))
			b := r.object(api.Eden, 'B', 0)
			r.lay(b, 0, v)
			r.push(v, b)
			r.counts(tenure, 1, 1-tenure, 1)
			i, _ := r.h.Root(0)
			j, _ := r.h.Slot(o, 0)
			k, _ := r.h.Slot(r.at('B'), 0)
			if i != v || j != v || k != v {
				t.Errorf("%d became %d, %d and %d", v, i, j, k)
			}
			r.notes("")
		}
	}
}

// forwardings are an address in each space, forwarded ahead of the run to an object in each space.
func forwardings(t *testing.T, what func(r *trial, from, to api.Oop)) {
	t.Helper()
	for _, from := range allSpaces {
		for _, to := range allSpaces {
			r := begin(t, small())
			if from == api.Past {
				r.object(api.Future, 'F')
			}
			if to == api.Past {
				r.object(api.Future, 'T', 9)
			}
			r.flip()
			if from != api.Past {
				r.object(from, 'F')
			}
			if to != api.Past {
				r.object(to, 'T', 9)
			}
			f := r.at('F')
			r.succeeds(r.h.Forward(f, r.at('T')))
			what(r, f, r.at('T'))
			if t.Failed() {
				t.Fatalf("forwarded from space %d to space %d", from, to)
			}
		}
	}
}

// A reference to such an address becomes the target, from wherever it comes, and by that the target isn't found.
func TestAddressesThatWereForwarded(t *testing.T) {
	for tenure := range 2 {
		forwardings(t, func(r *trial, f, to api.Oop) {
			o := r.object(api.Old, 'O', 0, 9)
			r.lay(o, 0, f)
			r.succeeds(r.h.Note(o))
			r.object(api.Eden, 'A', 0, 9)
			r.lay(r.at('A'), 0, f)
			r.push(f, r.at('A'))
			r.succeeds(r.h.SetClassAt(9, 9))
			inEdenOrPast := 0
			if sp := r.h.Space(to); sp == api.Eden || sp == api.Past {
				inEdenOrPast = 1
			}
			stays := r.h.Space(to) == api.Future
			r.counts(tenure, 1, 1-tenure, inEdenOrPast)
			v, _ := r.h.Root(0)
			same(t, "root", v, to)
			v, _ = r.h.Slot(o, 0)
			same(t, "oop of a noted object", v, to)
			v, _ = r.h.Slot(r.at('A'), 0)
			same(t, "oop of a copy", v, to)
			same(t, "the target is an object", r.h.Is(to), inEdenOrPast == 0)
			// What is in old and refers to the future space by that is noted.
			switch {
			case !stays:
				r.notes("")
			case tenure == 1:
				r.notes("O")
			default:
				r.notes("OA")
			}
		})
	}
}

// So it is though the target is found by another reference, ahead of that or behind it: its copy isn't what the address was forwarded to.
func TestAddressesThatWereForwardedToWhatIsFound(t *testing.T) {
	for _, ahead := range []bool{true, false} {
		forwardings(t, func(r *trial, f, to api.Oop) {
			l := []api.Oop{f, to}
			if ahead {
				slices.Reverse(l)
			}
			r.push(l...)
			o := r.object(api.Old, 'O', 0, to)
			r.lay(o, 0, f)
			r.succeeds(r.h.Note(o))
			copied := 0
			if sp := r.h.Space(to); sp == api.Eden || sp == api.Past {
				copied = 1
			}
			r.counts(15, copied, 0, 0)
			for i, v := range l {
				got, _ := r.h.Root(i)
				if v == f {
					same(t, "forwarded", got, to)
				} else {
					same(t, "found", got, r.at('T'))
				}
			}
			same(t, "oops", fmt.Sprint(oopsOf(t, r.h, o)), fmt.Sprint([]api.Oop{to, r.at('T')}))
		})
	}
}

// A reference goes one step, to the target that was given for its address, whatever became of that.
func TestAddressesThatWereForwardedOnAndOn(t *testing.T) {
	r := begin(t, small())
	a, b, c := r.object(api.Eden, 'A'), r.object(api.Old, 'B'), r.object(api.Old, 'C')
	d := r.object(api.Old, 'D')
	r.succeeds(r.h.Forward(a, b))
	r.succeeds(r.h.Forward(b, c))
	r.succeeds(r.h.Forward(d, c))
	r.succeeds(r.h.Free(c))
	r.push(a, b, c, d)
	r.counts(1, 0, 0, 0)
	for i, want := range []api.Oop{b, c, c, c} {
		v, _ := r.h.Root(i)
		same(t, "root", v, want)
	}
	// The next run takes the next step: b is still forwarded, a no longer.
	r.counts(1, 0, 0, 0)
	for i, want := range []api.Oop{c, c, c, c} {
		v, _ := r.h.Root(i)
		same(t, "root", v, want)
	}
}

// In pins an object may lie at an address that was forwarded: it still is one that was.
func TestAddressOfPinsThatWasForwardedAndIsAnObject(t *testing.T) {
	r := begin(t, small())
	p := r.object(api.Pins, 'P')
	o := r.object(api.Old, 'O', 0)
	r.succeeds(r.h.Forward(p, o))
	same(t, "the same address", r.object(api.Pins, 'Q'), p)
	r.push(p)
	r.set(o, 0, p)
	r.succeeds(r.h.Note(o))
	r.push(r.object(api.Eden, 'A', p))
	r.counts(1, 1, 0, 0)
	r.roots("OA")
	r.refers('O', "O")
	r.refers('A', "O")
	r.lies(api.Pins, "Q0")
}
