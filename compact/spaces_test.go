package compact_test

import (
	"reflect"
	"testing"

	"palaver/api"
	"palaver/compact"
)

// The chapter's first example.
func TestWeakExample(t *testing.T) {
	r := begin(t, api.Sizes{Eden: 64, Survivor: 16, Bound: 64})
	r.lay("X W?XY Y")
	r.push(r.all("WY")...)
	same(t, "X", r.at('X'), 784)
	report := compact.Run(r.h)
	if want := (api.Report{Kept: 2, Freed: 1, Moved: 2, Cleared: 1}); !reflect.DeepEqual(report, want) {
		t.Errorf("%+v, not %+v", report, want)
	}
	r.refers('W', ".Y")
	special, _ := r.h.Special(0)
	same(t, "special 0", special, 0)
	same(t, "W", r.at('W'), 784)
	same(t, "Y", r.at('Y'), 784+32)
	r.roots("WY")
}

// The chapter's second example.
func TestEphemeronExample(t *testing.T) {
	for _, c := range []struct{ text, stack, fired string }{
		{"E!KV K V", "E", "E"}, {"E!KV K V", "EK", ""}, {"E!KV K V:K", "E", "E"},
	} {
		r := scene(t, c.text, c.stack)
		e := r.at('E')
		report := compact.Run(r.h)
		want := api.Report{Kept: 3}
		format := api.FormatEphemeron
		if c.fired != "" {
			want.Fired = []api.Oop{e}
			format = api.FormatPointers
		}
		sameReport(t, report, want)
		same(t, "format", r.head(e).Format, format)
		r.lies(api.Old, "EKV")
		r.refers('E', "KV")
	}
}

// Each count of the report, with all of them different; and what nothing is to be told of is zero.
func TestReport(t *testing.T) {
	r := scene(t, "eden A:B B X old Y W?XYX C E!KV K V pins Z Q", "AWE")
	r.runs(counts{kept: 6, freed: 5, moved: 4, cleared: 3, fired: "E"})
	// Of the fields that are of scavenges nothing is told, and so it is where there is nothing to report.
	same(t, "tenured", r.run().Tenured, 0)
	sameReport(t, compact.Run(begin(t, small()).h), api.Report{})
}

// An old space with gaps at its beginning, in its middle and at its end, of objects and of words that were freed ahead, and one without gaps.
func TestGapsOfOld(t *testing.T) {
	for _, c := range []struct {
		text, stack, ahead string // ahead: what is freed ahead of the run
		freed, moved       int
		old                string
	}{
		{"A B:## C", "ABC", "", 0, 0, "ABC"},       // none
		{"X A B:## C", "ABC", "", 1, 3, "ABC"},     // at the beginning
		{"X:### A B:## C", "ABC", "", 1, 3, "ABC"}, // .. a greater one than what is moved
		{"A X B:## C", "ABC", "", 1, 2, "ABC"},     // in the middle
		{"A:#### X B:## Y C", "ABC", "", 2, 2, "ABC"},
		{"A X B Y C", "ABC", "XY", 0, 2, "ABC"}, // freed ahead
		{"A X B Y C", "ABC", "X", 1, 2, "ABC"},
		{"X A Y", "A", "X", 1, 1, "A"},
		{"A B:## C X", "ABC", "", 1, 0, "ABC"}, // at the end
		{"A B:## C X", "ABC", "X", 0, 0, "ABC"},
		{"X A Y Z B V C W", "ABC", "ZW", 3, 3, "ABC"},  // everywhere
		{"X:# Y A:############ Z", "A", "", 3, 1, "A"}, // onto words of its own
		{"X Y Z", "", "", 3, 0, ""},                    // nothing is left
		{"X Y Z", "", "XYZ", 0, 0, ""},
		{"", "", "", 0, 0, ""},
	} {
		r := scene(t, c.text, c.stack)
		for _, o := range r.all(c.ahead) {
			r.succeeds(r.h.Free(o))
		}
		r.runs(counts{kept: len(c.stack), freed: c.freed, moved: c.moved})
		r.lies(api.Old, c.old)
		r.packed()
		// The next object comes directly behind them.
		want := api.Oop(16 + 8*(256+2*128) + 8*r.h.Used(api.Old))
		same(t, "next", r.of(api.Old, '-', api.FormatPointers, 0), want)
		if t.Failed() {
			t.Fatal(c.text)
		}
	}
}

// packed asks that the old space has no gaps.
func (r *trial) packed() {
	r.Helper()
	size := r.z.Bound + r.z.Eden + 2*r.z.Survivor
	same(r.T, "words of old", r.h.Used(api.Old)+r.h.Room(api.Old), size)
	at := api.Oop(16 + 8*(r.z.Eden+2*r.z.Survivor))
	for o := range r.h.Walk(api.Old) {
		same(r.T, "the next object", o, at)
		at += api.Oop(8 * (2 + r.head(o).Slots))
	}
}

// What refers to an old object refers to it behind the slide, wherever it stands.
func TestReferencesToWhatHasMoved(t *testing.T) {
	r := scene(t, "past P:A future F:A eden E:A old X A:A B:A W?A M*A D!AA pins Q:A", "PFEBWMDQA")
	r.succeeds(r.h.SetSpecial(4, r.at('A')))
	r.succeeds(r.h.SetClassAt(4, r.at('A')))
	r.succeeds(r.h.Enqueue(r.at('A')))
	a := r.at('A')
	r.runs(counts{kept: 9, freed: 1, moved: 5})
	same(t, "A", r.at('A'), a-16)
	for _, name := range []byte("PFEABWQ") {
		r.refers(name, "A")
	}
	r.refers('M', "#A")
	r.refers('D', "AA")
	r.roots("AAPFEBWMDQAA")
}

// Objects of each space are freed where they lie, and those that live stay there, but for old.
func TestFreedInEachSpace(t *testing.T) {
	for _, sp := range allSpaces {
		r := scene(t, spaceNames()[sp]+" X A:## Y B Z:###", "AB")
		a, b := r.at('A'), r.at('B')
		gone := r.all("XYZ")
		room := r.h.Room(sp)
		report := r.run()
		same(t, "freed", report.Freed, 3)
		same(t, "used", r.h.Used(sp), 6)
		r.lies(sp, "AB")
		for _, o := range gone[1:] {
			same(t, "object", r.h.Is(o), false)
		}
		switch sp {
		case api.Old:
			same(t, "room", r.h.Room(sp), room+9)
			same(t, "moved", report.Moved, 2)
			continue
		case api.Pins:
			same(t, "room", r.h.Room(sp), room+5)
		default:
			// Their words come back when the space is emptied.
			same(t, "room", r.h.Room(sp), room)
		}
		same(t, "A", r.at('A'), a)
		same(t, "B", r.at('B'), b)
		same(t, "moved", report.Moved, 0)
	}
}

// All spaces at once.
func TestSpacesAfterwards(t *testing.T) {
	r := scene(t, "past P Q:# future F:# G eden A B:## C old D E:# H pins I:# J K:#", "")
	r.push(r.all("PGBHJ")...)
	r.runs(counts{kept: 5, freed: 8, moved: 1})
	for sp, want := range map[api.Space]struct {
		names      string
		used, room int
	}{
		api.Eden: {"B", 4, 256 - 8}, api.Past: {"P", 2, 128 - 5}, api.Future: {"G", 2, 128 - 5}, api.Old: {"H", 2, 768 - 2}, api.Pins: {"J", 2, 64 - 5},
	} {
		r.lies(sp, want.names)
		same(t, "used", r.h.Used(sp), want.used)
		same(t, "room", r.h.Room(sp), want.room)
	}
	r.roots("PGBHJ")
	r.notes("")
	r.sound()
}

// Gaps of pins grow together, with each other and with those that were there.
func TestGapsOfPins(t *testing.T) {
	for _, c := range []struct {
		stack, ahead string
		room         int
	}{
		{"ABCDE", "", 1}, // 16 words of which A, B, C, D and E have 3 each
		{"ABCD", "", 4},
		{"ABC", "", 7},
		{"AB", "D", 10},
		{"AE", "", 9},
		{"AE", "C", 9},
		{"AE", "BD", 9},
		{"AC", "", 7},
		{"BD", "", 4},
		{"BD", "ACE", 4},
		{"CE", "", 6},
		{"E", "", 12},
		{"E", "A", 12},
		{"", "", 16},
		{"", "ACE", 16},
		{"", "BD", 16},
		{"", "ABCDE", 16},
	} {
		r := begin(t, small())
		r.lay("pins A:# B:# C:# D:# E:#")
		r.push(r.all(c.stack)...)
		for _, o := range r.all(c.ahead) {
			r.succeeds(r.h.Free(o))
		}
		r.runs(counts{kept: len(c.stack), freed: 5 - len(c.stack) - len(c.ahead)})
		same(t, "room", r.h.Room(api.Pins), c.room)
		r.lies(api.Pins, c.stack)
		if c.room > 1 {
			r.of(api.Pins, '-', api.FormatWords, c.room-2)
		}
		if t.Failed() {
			t.Fatalf("%+v", c)
		}
	}
}

// Noted objects that are freed are no longer noted; the others stay so, in their order and at their new addresses, though they refer to nothing young.
func TestNoted(t *testing.T) {
	r := scene(t, "eden Y Z past P old X A:Y B:P C:Z D:Y E:. F:Z pins Q:Y R:Z S:P", "")
	r.succeeds(r.h.Note(r.at('E')))
	r.set(r.at('D'), 0, 0)
	r.notes("ABCDFQRSE")
	r.push(r.all("SEDBAFR")...)
	a := r.at('A')
	r.runs(counts{kept: 10, freed: 3, moved: 5})
	r.notes("ABDFRSE")
	same(t, "A", r.at('A'), a-16)
	for _, name := range []byte("ABDFRSE") {
		same(t, "noted", r.head(r.at(name)).Noted, true)
	}
	r.roots("SEDBAFR")
	r.sound()
	// Noted objects are no roots.
	r = scene(t, "eden Y old A:Y", "")
	r.runs(counts{freed: 2})
	r.notes("")
	// .. and what is dead no longer notes what lies there then.
	r.lay("B")
	r.push(r.all("B")...)
	r.runs(counts{kept: 1})
	r.notes("")
	same(t, "noted", r.head(r.at('B')).Noted, false)
}

// Addresses that were forwarded: those of old are forgotten, the targets of the others are renamed.
func TestForwardedAfterwards(t *testing.T) {
	r := scene(t, "X A past P future F eden E old O pins Q", "A")
	var from []api.Oop
	for _, name := range []byte("PFEOQ") {
		from = append(from, r.at(name))
		r.succeeds(r.h.Forward(r.at(name), r.at('A')))
	}
	r.runs(counts{kept: 1, freed: 1, moved: 1})
	for i, o := range from {
		to, is := r.h.Forwarded(o)
		same(t, "forwarded", is, i != 3)
		if is {
			same(t, "to", to, r.at('A'))
		}
	}
}

// Two runs one behind the other: the second one has nothing left to do.
func TestTwoRuns(t *testing.T) {
	r := scene(t, "eden E!KV Y old X K W?XV V pins Q!K M*WY", "EQM")
	r.runs(counts{kept: 7, freed: 1, moved: 3, cleared: 1, fired: "EQ"})
	before := pictureOf(r)
	r.runs(counts{kept: 7})
	samePicture(t, pictureOf(r), before)
	_, e := r.h.Pop()
	r.succeeds(e)
	r.runs(counts{kept: 4, freed: 3, moved: 1})
	r.lay("X F!KX")
	r.push(r.at('F'))
	r.runs(counts{kept: 6})
	r.lay("eden L G!L")
	r.push(r.at('G'))
	r.runs(counts{kept: 8, fired: "G"})
}

func TestHeapWithoutObjects(t *testing.T) {
	for _, z := range []api.Sizes{small(), {Eden: 64, Survivor: 16, Bound: 64}, wide()} {
		r := begin(t, z)
		r.runs(counts{})
		r.runs(counts{})
		r.sound()
	}
}
