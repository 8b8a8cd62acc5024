package scavenge_test

import (
	"testing"

	"palaver/api"
)

// Copies in old that refer to the future space become noted, in the order of copying and behind what is noted already.
func TestCopiesThatBecomeNoted(t *testing.T) {
	r := begin(t, wide())
	var old []api.Oop
	for _, name := range []byte("FEDCBA") {
		old = append(old, r.aged(r.object(api.Eden, name, 0, 0), 1))
	}
	r.flip()
	x, y := r.object(api.Eden, 'X'), r.object(api.Eden, 'Y')
	r.set(old[0], 0, x)      // F
	r.set(old[1], 1, old[0]) // E, only to what is in old with it
	r.set(old[3], 1, y)      // C
	r.set(old[4], 0, 9)      // B, to nothing
	r.set(old[5], 0, old[3]) // A, to what is in old, and by it to Y
	r.set(old[5], 1, x)
	r.object(api.Old, 'P', x)
	r.object(api.Pins, 'O', y)
	r.push(old[4], old[5], old[1], old[3], old[2])
	r.counts(1, 8, 6, 0)
	r.lies(api.Old, "P0 B1 A1 E1 C1 D1 F1")
	r.lies(api.Past, "X1 Y1")
	r.notes("POACF")
	for _, name := range []byte("POACF") {
		same(t, "noted "+string(rune(name)), r.head(r.at(name)).Noted, true)
	}
	for _, name := range []byte("BEDXY") {
		same(t, "noted "+string(rune(name)), r.head(r.at(name)).Noted, false)
	}
	// All that they referred to is in old behind the next run.
	r.counts(1, 2, 2, 0)
	r.notes("")
}

// Each kind of oop counts: of pointers, weak, of an ephemeron, of a method, the first or the last.
func TestOopsByWhichCopiesBecomeNoted(t *testing.T) {
	for _, c := range []struct {
		make func(r *trial, x api.Oop)
		want string
	}{
		{func(r *trial, x api.Oop) { r.object(api.Eden, 'A', x) }, "A"},
		{func(r *trial, x api.Oop) { r.object(api.Eden, 'A', 9, 0, 2, x) }, "A"},
		{func(r *trial, x api.Oop) { r.formed(api.Eden, 'A', api.FormatWeak, 9, x) }, "A"},
		{func(r *trial, x api.Oop) { r.formed(api.Eden, 'A', api.FormatEphemeron, x) }, "A"},
		{func(r *trial, x api.Oop) { r.formed(api.Eden, 'A', api.FormatEphemeron, 9, x) }, "A"},
		{func(r *trial, x api.Oop) { r.method(api.Eden, 'A', "abc", 9, x) }, "A"},
		{func(r *trial, x api.Oop) { r.method(api.Eden, 'A', "abc", 9) }, ""},
		{func(r *trial, x api.Oop) { r.object(api.Eden, 'A') }, ""},
		{func(r *trial, x api.Oop) { r.lay(r.object(api.Eden, 'A', 9), 0, x+8) }, ""},
		{func(r *trial, x api.Oop) {
			r.succeeds(r.h.SetWord(r.of(api.Eden, 'A', api.FormatWords, 1), 0, uint64(x)))
		}, ""},
	} {
		r := begin(t, small())
		x := r.object(api.Future, 'F')
		c.make(r, x)
		r.push(r.at('A'), x)
		r.counts(0, 1, 1, 0)
		r.lies(api.Past, "F0")
		r.notes(c.want)
	}
}

// A copy in old refers to what is copied into the future space behind it, or was copied there ahead of it.
func TestCopiesThatBecomeNotedForCopiesAheadAndBehind(t *testing.T) {
	for _, names := range []string{"XA", "AX"} {
		r := begin(t, small())
		a := r.aged(r.object(api.Eden, 'A', 0), 3)
		r.flip()
		r.set(a, 0, r.object(api.Eden, 'X'))
		r.push(r.at(names[0]), r.at(names[1]))
		r.counts(3, 2, 1, 0)
		r.lies(api.Past, "X1")
		r.notes("A")
	}
}

// Copies in the future space are not noted, though they refer to it.
func TestYoungCopiesAreNotNoted(t *testing.T) {
	r := begin(t, small())
	r.push(r.object(api.Eden, 'A', r.object(api.Eden, 'B')))
	r.counts(1, 2, 0, 0)
	r.notes("")
	same(t, "noted", r.head(r.at('A')).Noted, false)
}

// What did not find room in the future space is noted for what did.
func TestCopiesThatFindNoRoomBecomeNoted(t *testing.T) {
	r := begin(t, small())
	x := r.object(api.Eden, 'X')
	a := r.of(api.Eden, 'A', api.FormatPointers, 15)
	r.set(a, 14, x)
	r.push(a)
	r.counts(15, 2, 1, 0)
	r.lies(api.Old, "A0")
	r.lies(api.Past, "X1")
	r.notes("A")
}

// Noted objects whose young ones are gone to old are no longer noted; the others stay so, in their order.
func TestWhatIsNoLongerNoted(t *testing.T) {
	r := begin(t, wide())
	a, b := r.aged(r.object(api.Eden, 'A'), 2), r.aged(r.object(api.Eden, 'B'), 1)
	r.flip()
	c := r.object(api.Eden, 'C')
	f := r.object(api.Future, 'F')
	r.object(api.Old, 'P', a)
	r.object(api.Pins, 'Q', b)
	r.object(api.Old, 'R', a, c)
	r.object(api.Old, 'S', a, a)
	r.object(api.Old, 'T', f)
	r.object(api.Old, 'U', c)
	r.object(api.Old, 'V', c)
	r.set(r.at('V'), 0, 9)
	r.succeeds(r.h.Note(r.object(api.Old, 'W', r.at('P'))))
	r.notes("PQRSTUVW")
	r.counts(2, 3, 1, 0)
	r.lies(api.Past, "F0 B2 C1")
	r.notes("QRTU")
	for _, name := range []byte("PSVW") {
		same(t, "noted", r.head(r.at(name)).Noted, false)
	}
	r.counts(2, 3, 1, 0)
	r.notes("RTU")
	r.counts(0, 2, 2, 0)
	r.notes("")
	r.refers('R', "AC")
	r.refers('T', "F")
}

// Where a copy lies now a word may have pointed that named no object when it was scanned: what has it in old refers to the future space then.
func TestWordThatComesToNameACopy(t *testing.T) {
	r := begin(t, small())
	a := r.aged(r.object(api.Eden, 'A', 9), 1)
	r.flip()
	r.lay(a, 0, 528) // the future space is empty
	r.push(a, r.object(api.Eden, 'X'))
	r.counts(1, 2, 1, 0)
	r.lies(api.Past, "X1")
	r.refers('A', "X")
	r.notes("A")
}
