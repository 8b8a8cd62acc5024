package compact_test

import (
	"math"
	"testing"

	"palaver/api"
	"palaver/compact"
)

// A weak oop is cleared if nothing else keeps what it names.
func TestWeakOops(t *testing.T) {
	for _, c := range []struct {
		text, stack   string
		kept, cleared int
		oops          string // of W, behind the run
	}{
		{"W?X X", "W", 1, 1, "."},  // alone
		{"W?X X", "WX", 2, 0, "X"}, // with a root
		{"W?X X", "XW", 2, 0, "X"},
		{"W?X X A:X", "WA", 3, 0, "X"},   // with an object
		{"W?X X A:X", "W", 1, 1, "."},    // .. that does not live itself
		{"W?X X M*X", "WM", 3, 0, "X"},   // with a method
		{"W?X X V?X", "WV", 2, 2, "."},   // with another weak object
		{"W?W", "W", 1, 0, "W"},          // itself
		{"W?XYX X Y", "WY", 2, 2, ".Y."}, // each oop by itself
		{"W?XXX X", "W", 1, 3, "..."},    // .. though they name the same
		{"W?XYZ X:Y Y:Z Z:X", "W", 1, 3, "..."},
		{"W?XYZ X:Y Y:Z Z", "WY", 3, 1, ".YZ"},
		{"W?.#X X", "W", 1, 1, ".#."}, // what names no object is not cleared
		{"W?.#", "W", 1, 0, ".#"},
		{"W?", "W", 1, 0, ""},
		{"W?A A:X X", "W", 1, 1, "."}, // what is freed with it
		{"W?V V?X X", "W", 1, 1, "."}, // a weak object that is freed clears nothing
		{"W?V V?X X", "WV", 2, 1, "V"},
		{"W?VX V?WX X", "WV", 2, 2, "V."},
		{"W?E E!KV K V", "W", 1, 1, "."},  // an ephemeron does not live by it
		{"W?K E!KV K V", "WE", 4, 0, "K"}, // the key of one that fires is kept, and so named still
		{"W?V E!KV K V", "WE", 4, 0, "V"},
		{"W?KV E!KV K V A:K", "WEA", 5, 0, "KV"},
		{"W?VK E!.V V K", "WE", 3, 1, "V."},
		{"W?V A:B B:V E!KV K V", "WE", 4, 0, "V"},
		{"A:W W?X X", "A", 2, 1, "."}, // a weak object that lives by another one
		{"A:W W?AX X:W", "A", 2, 1, "A."},
		{"E!KW K W?X X", "E", 3, 1, "."}, // .. by an ephemeron that fires
		{"V?W W?X X", "V", 1, 1, ""},     // it is gone itself
		{"W?X X", "", 0, 0, ""},
	} {
		for _, sp := range []string{"eden ", "past ", "future ", "old ", "pins "} {
			r := scene(t, sp+c.text, c.stack)
			objects := len(pictureOf(r).Objects)
			report := r.run()
			same(t, "kept", report.Kept, c.kept)
			same(t, "freed", report.Freed, objects-c.kept)
			same(t, "cleared", report.Cleared, c.cleared)
			if o := r.at('W'); o != 0 {
				r.refers('W', c.oops)
				same(t, "format", r.head(o).Format, api.FormatWeak)
			}
			r.sound()
			same(t, "cleared again", r.run().Cleared, 0)
			if t.Failed() {
				t.Fatalf("%s%s, stack %s", sp, c.text, c.stack)
			}
		}
	}
}

// Weak objects and what they name in different spaces.
func TestWeakOopsAcrossSpaces(t *testing.T) {
	for _, first := range allSpaces {
		for _, second := range allSpaces {
			r := scene(t, spaceNames()[first]+" W?XYX "+spaceNames()[second]+" X Y", "WY")
			report := r.run()
			same(t, "cleared", report.Cleared, 2)
			same(t, "freed", report.Freed, 1)
			r.refers('W', ".Y.")
			r.sound()
		}
	}
}

// What names no object is neither cleared nor counted, also where an object was.
func TestWeakOopsThatNameNoObject(t *testing.T) {
	for i := range no(scene(t, "A:### F:# G:#", "")) {
		r := scene(t, "A:### W?#X X F:# G:#", "AW")
		v := no(r)[i]
		r.spoil(r.at('W'), 0, v)
		r.runs(counts{kept: 2, freed: 1, cleared: 1})
		same(t, "oop", oopsOf(t, r.h, r.at('W'))[0], v)
		same(t, "the other oop", oopsOf(t, r.h, r.at('W'))[1], 0)
		if t.Failed() {
			t.Fatalf("word %d", v)
		}
	}
}

// In the place of what is cleared stands special 0, whatever that is.
func TestClearingWithSpecial0(t *testing.T) {
	for _, v := range []api.Oop{0, 1, 9, math.MaxUint64 - 6, 2, 778, 2097151*8 + 2} {
		for _, sp := range []string{"eden ", "past ", "future ", "old ", "pins "} {
			r := scene(t, sp+"W?XYX X Y", "WY")
			r.succeeds(r.h.SetSpecial(0, v))
			r.succeeds(r.h.SetSpecial(1, 17))
			report := r.run()
			same(t, "cleared", report.Cleared, 2)
			l := oopsOf(t, r.h, r.at('W'))
			same(t, "oop", l[0], v)
			same(t, "oop", l[1], r.at('Y'))
			same(t, "oop", l[2], v)
			r.notes("")
			r.sound()
		}
	}
}

// special0 makes an object special 0.
func (r *trial) special0(name byte) {
	r.Helper()
	r.succeeds(r.h.SetSpecial(0, r.at(name)))
}

// Special 0 is an object: it lives, by that alone, and where it moves the oop goes with it.
func TestClearingWithAnObject(t *testing.T) {
	r := scene(t, "U W?XNX X N", "W")
	r.special0('N')
	r.runs(counts{kept: 2, freed: 2, moved: 2, cleared: 2})
	r.refers('W', "NNN")
	r.notes("")
	r.sound()
	// What was cleared is not cleared again.
	r.runs(counts{kept: 2})
	// Another special 0: only now N is cleared.
	r.succeeds(r.h.SetSpecial(0, 9))
	r.runs(counts{kept: 1, freed: 1, cleared: 3})
	r.refers('W', "###")
}

func TestClearingWithAYoungObject(t *testing.T) {
	for _, young := range []string{"eden", "past", "future"} {
		for _, sp := range []string{"old", "pins"} {
			r := scene(t, young+" N "+sp+" X W?X", "W")
			r.special0('N')
			r.notes("")
			report := r.run()
			same(t, "cleared", report.Cleared, 1)
			r.refers('W', "N")
			r.notes("W")
			r.sound()
		}
		for _, sp := range []string{"eden", "past", "future"} {
			r := scene(t, young+" N "+sp+" W?X X", "W")
			r.special0('N')
			r.run()
			r.refers('W', "N")
			r.notes("")
			same(t, "noted", r.head(r.at('W')).Noted, false)
			r.sound()
		}
	}
}

// The weak objects in old and pins become noted in the order of their addresses, old ones first, behind those that are noted already.
func TestOrderOfNotingWhatIsCleared(t *testing.T) {
	r := scene(t, "eden N pins Q?X P?X old X D?X C?# B?X A:N pins O?N old F?X", "FBDCQPOA")
	r.special0('N')
	r.notes("AO")
	r.runs(counts{kept: 9, freed: 1, moved: 5, cleared: 5})
	r.notes("AODBFQP")
	r.sound()
	// Noted ones that are cleared stay where they are in the order.
	r.lay("eden Y")
	for _, name := range []byte("OFC") {
		r.set(r.at(name), 0, r.at('Y'))
	}
	r.notes("AODBFQPC")
	r.runs(counts{kept: 9, freed: 1, cleared: 3})
	r.notes("AODBFQPC")
	r.refers('C', "N")
}

// Special 0 is the weak object itself.
func TestClearingWithTheWeakObject(t *testing.T) {
	for _, sp := range []string{"eden ", "past ", "future ", "old ", "pins "} {
		r := scene(t, sp+"U W?X#X X", "")
		r.special0('W')
		report := r.run()
		same(t, "kept", report.Kept, 1)
		same(t, "cleared", report.Cleared, 2)
		r.refers('W', "W#W")
		r.notes("")
		r.sound()
	}
}

// Where SetSlot takes special 0 not, the oop stays, and is counted all the same.
func TestClearingWithWhatMayNotBeStored(t *testing.T) {
	stage := func() *trial {
		return scene(t, "A:### U W?XYX V?X X Y future E?X old F:# G:#", "AWYVE")
	}
	for i, word := range no(stage()) {
		r := stage()
		v := no(r)[i]
		if pictureOf(r).mayStand(v) {
			continue
		}
		r.root(func(o api.Oop) api.Errno { return r.h.SetSpecial(0, o) }, v)
		x, e := r.at('X'), r.at('E')
		r.runs(counts{kept: 5, freed: 2, moved: 3, cleared: 4})
		for _, o := range []api.Oop{r.at('V'), e} {
			same(t, "oop", oopsOf(t, r.h, o)[0], x)
		}
		l := oopsOf(t, r.h, r.at('W'))
		same(t, "oop", l[0], x)
		same(t, "oop", l[1], r.at('Y'))
		same(t, "oop", l[2], x)
		r.notes("")
		special, _ := r.h.Special(0)
		same(t, "special 0", special, v)
		if t.Failed() {
			t.Fatalf("word %d", word)
		}
	}
}

// Many weak objects with many oops each.
func TestManyWeakOops(t *testing.T) {
	r := begin(t, api.Sizes{Eden: 4096, Survivor: 16, Bound: 4096})
	named := r.of(api.Old, 'A', api.FormatPointers, 100)
	for i := range 100 {
		r.set(named, i, r.of(api.Old, 'B', api.FormatPointers, 0))
	}
	for range 10 {
		w := r.of(api.Eden, 'W', api.FormatWeak, 101)
		for i := range 100 {
			r.set(w, i, oopsOf(t, r.h, named)[i])
		}
		r.set(w, 100, named)
		r.push(w)
	}
	r.push(oopsOf(t, r.h, named)[:30]...)
	sameReport(t, compact.Run(r.h), api.Report{Kept: 40, Freed: 71, Moved: 30, Cleared: 10 * 71})
	for i := range 10 {
		w, _ := r.h.Root(i)
		l := oopsOf(t, r.h, w)
		for j, v := range l {
			want := api.Oop(0)
			if j < 30 {
				want, _ = r.h.Root(10 + j)
			}
			same(t, "oop", v, want)
		}
	}
}
