package compact_test

import (
	"math"
	"testing"

	"palaver/api"
	"palaver/compact"
)

// ephemerons plays scenes in each space, and then once more: what has fired does so only once.
func ephemerons(t *testing.T, cases []ephemeronCase) {
	t.Helper()
	for _, c := range cases {
		for _, sp := range []string{"eden ", "past ", "future ", "old ", "pins "} {
			r := scene(t, sp+c.text, c.stack)
			before := map[byte]api.Format{}
			for name := byte('A'); name <= 'Z'; name++ {
				if o := r.at(name); o != 0 {
					before[name] = r.head(o).Format
				}
			}
			report := r.run()
			same(t, "kept", report.Kept, c.kept)
			same(t, "freed", report.Freed, len(before)-c.kept)
			same(t, "fired", r.names(report.Fired), c.fired)
			for i := range len(c.fired) {
				before[c.fired[i]] = api.FormatPointers
			}
			for name, f := range before {
				if o := r.at(name); o != 0 {
					same(t, "format of "+string(rune(name)), r.head(o).Format, f)
				}
			}
			r.runs(counts{kept: c.kept})
			if t.Failed() {
				t.Fatalf("%s%s, stack %s", sp, c.text, c.stack)
			}
		}
	}
}

type ephemeronCase struct {
	text, stack string
	kept        int
	fired       string
}

// Step 2: the key is not an object, or lives already: nothing waits.
func TestEphemeronsThatDoNotWait(t *testing.T) {
	ephemerons(t, []ephemeronCase{
		{"E!.V V", "E", 2, ""},    // 0
		{"E!#V V", "E", 2, ""},    // a number
		{"E!. F!#", "", 0, ""},    // dead ones
		{"E!KV K V", "KE", 3, ""}, // a root ahead
		{"E!KV K V", "EK", 3, ""}, // a root behind: visited ahead of all processing
		{"E!KV K V A:K", "AE", 4, ""},
		{"A:KE E!KV K V", "A", 4, ""},     // its key is in the queue, not processed yet
		{"A:EK E!KV K V", "A", 4, ""},     // .. though behind it
		{"E!EV V", "E", 2, ""},            // the key is itself
		{"E!E", "E", 1, ""},               // .. and there is nothing else
		{"E!FV F!EW V W", "EF", 4, ""},    // two that are each other's keys
		{"E!KKK K", "KE", 2, ""},          // the key also is a value
		{"M*KE E!KV K V", "M", 4, ""},     // by a method
		{"E!K..# K", "EK", 2, ""},         // values that are no objects
		{"E!AV A:E V", "A", 3, ""},        // the key names it
		{"E!KV F!KW K V W", "EFK", 5, ""}, // a key of two
	})
}

// Step 2: the key is a word that names no object.
func TestKeysThatAreNoObjects(t *testing.T) {
	for i := range no(scene(t, "A:### F:# G:#", "")) {
		r := scene(t, "A:### E!#V V F:# G:#", "AE")
		v := no(r)[i]
		r.spoil(r.at('E'), 0, v)
		r.runs(counts{kept: 3})
		same(t, "format", r.head(r.at('E')).Format, api.FormatEphemeron)
		same(t, "key", oopsOf(t, r.h, r.at('E'))[0], v)
		if t.Failed() {
			t.Fatalf("word %d", v)
		}
	}
}

// A key in whatever space and of whatever format is one.
func TestKeysOfAllKinds(t *testing.T) {
	for _, sp := range []api.Space{api.Eden, api.Future, api.Old, api.Pins} {
		for f := api.FormatPointers; f <= api.FormatBytes; f++ {
			for _, lives := range []bool{false, true} {
				r := scene(t, "E!.V V", "E")
				k := r.of(sp, 'K', f, 1)
				r.set(r.at('E'), 0, k)
				if lives {
					r.push(k)
					r.runs(counts{kept: 3})
				} else {
					r.runs(counts{kept: 3, fired: "E"})
				}
			}
		}
		r := scene(t, "E!.V V", "E")
		k, e := r.h.AllocMethod(sp, 'K', 0, 0)
		r.succeeds(e)
		r.set(r.at('E'), 0, k)
		r.runs(counts{kept: 3, fired: "E"})
	}
}

// Step 3: the key comes to live while the queue is processed, or by one that has waited.
func TestEphemeronsThatWaitAndDoNotFire(t *testing.T) {
	ephemerons(t, []ephemeronCase{
		{"E!KV K V A:K", "EA", 4, ""},
		{"E!KV K V A:B B:C C:K", "EA", 6, ""}, // much later
		{"E!KV K V M*K", "EM", 4, ""},
		{"E!KV V K F!.K", "EF", 4, ""},                     // by an ephemeron that does not wait
		{"E!KV V K F!LK L A:L", "EFA", 6, ""},              // by one that has waited
		{"E!KV V K F!LA A:K L B:L", "EFB", 7, ""},          // by what that one visits
		{"F!LK L E!KV V K A:L", "FEA", 6, ""},              // by one that has waited longer
		{"E!K F!LK G!ML H!NM A:N K L M N", "EFGHA", 9, ""}, // against the order in which they were met
		{"E!K F!LK G!ML H!NM A:N K L M N", "HGFEA", 9, ""}, // in it
		{"E!K F!LK G!ML H!NM A:N K L M N", "GEHFA", 9, ""}, // here and there
		{"E!K F!KG G!K H!K A:K K", "EFHA", 6, ""},          // several for one key
		{"E!KV F!VW V W K A:K", "FEA", 6, ""},              // the key is another one's value
		{"E!KF F!LV K L V A:KL", "EA", 6, ""},              // one that is met by one that has waited
		{"E!FX F!KY K X Y A:KE G:F", "AG", 7, ""},          // the key is an ephemeron
		{"E!KE K A:K", "EA", 3, ""},                        // a value is itself
	})
}

// Step 4: all that wait fire, if no key comes to live.
func TestEphemeronsThatFire(t *testing.T) {
	ephemerons(t, []ephemeronCase{
		{"E!KV K V", "E", 3, "E"},      // its key lives by nothing else
		{"E!KV K V:K", "E", 3, "E"},    // .. by its own value
		{"E!KV K:V V:K", "E", 3, "E"},  // .. by a ring of these
		{"E!KK K", "E", 2, "E"},        // .. by another one of its oops
		{"E!K K", "E", 2, "E"},         // .. and there is nothing else
		{"E!KV K:E V", "E", 3, "E"},    // the key names it
		{"E!KV K V W?K", "EW", 4, "E"}, // a weak object alone names the key
		{"E!KV K V W?K", "WE", 4, "E"},
		{"E!KV K V A:K", "E", 3, "E"},      // what names the key does not live
		{"E!KV F!LK K L V", "EF", 5, "EF"}, // another one alone names it, that fires too
		{"E!KV F!LK K L V", "FE", 5, "FE"},
		{"E!KL F!LK K L", "EF", 4, "EF"}, // each one's key is the other one's value
		{"E!KL F!LK K L", "FE", 4, "FE"},
		{"E!KL F!LM G!MK K L M", "EFG", 6, "EFG"}, // a ring of three
		{"E!KL F!LM G!MK K L M", "GEF", 6, "GEF"},
		{"E!KL F!LM G!MK K L M", "E", 3, "E"},    // of which one lives
		{"E!FX F!EX X", "E", 3, "E"},             // the key is an ephemeron whose key is it
		{"E!KV F!KW K V W", "FE", 5, "FE"},       // two for one key
		{"E!KV K V F!LW L W A:L", "EFA", 7, "E"}, // one waits and does not fire, one does
		{"F!LW E!KV K V L W A:L", "FEA", 7, "E"},
		{"E!FV F!KW K V W", "E", 5, "EF"},  // the key is an ephemeron that fires later
		{"E!KV K V F!LW L W", "E", 3, "E"}, // a dead one does not fire
		{"E!KV K V", "V", 1, ""},           // .. whatever lives of it
		{"E!KV K V", "K", 1, ""},
		{"E!KV K V W?E", "W", 1, ""}, // .. and lives not by a weak oop
		{"A:E B:F E!K F!K K", "BA", 5, "FE"},
	})
}

// Step 4: what fires together, and what in a later round.
func TestRoundsOfFiring(t *testing.T) {
	ephemerons(t, []ephemeronCase{
		{"E!KF F!LV K L V", "E", 5, "EF"},            // met by one that has fired
		{"E!KF F!LV K L V", "EF", 5, "EF"},           // both at once
		{"E!KF F!LV K L V", "FE", 5, "FE"},           // .. in the order in which they were met
		{"F!LX E!KG G!MV K L M V X", "EF", 8, "EFG"}, // the later round comes behind the earlier one
		{"F!LX E!KG G!MV K L M V X", "FE", 8, "FEG"},
		{"E!KFL F!LV K L V", "E", 5, "E"}, // firing saves the key of what is met by that
		{"E!KLF F!LV K L V", "E", 5, "E"},
		{"E!KF F!KV K V", "E", 4, "E"},                     // .. the same key
		{"E!KFA A:B B:L F!LV K L V", "E", 7, "E"},          // .. later in the round
		{"E!KF F!LG G!MH H!N K L M N", "E", 8, "EFGH"},     // a round for each
		{"E!KG F!LH G!MV H!MW K L M V W", "EF", 9, "EFGH"}, // two rounds of two
		{"E!KG F!LH G!MV H!MW K L M V W", "FE", 9, "FEHG"},
		{"E!KGM F!LH G!MV H!MW K L M V W", "EF", 9, "EF"}, // the first of a round saves what the second one meets
		{"E!KG F!LHM G!MV H!MW K L M V W", "EF", 9, "EF"}, // .. and the other way round
		{"E!KA A:BF B:G F!M G!N K M N", "E", 8, "EFG"},    // in the order of the queue behind a round
		{"E!KAG A:F F!M G!N K M N", "E", 7, "EGF"},
	})
}

// Step 3: the look goes from the first one on, and who is ready by then visits at once, in the same look.
func TestOrderOfLooks(t *testing.T) {
	for _, c := range []struct{ text, stack, fired string }{
		// E's look makes F ready, which lies behind it: X is visited ahead of Y, by P's processing.
		{"E!KLP F!LX K L P:Y X!M Y!N M N A:K", "EFA", "XY"},
		// .. F lies ahead of it, and is passed: Y is first.
		{"E!KLP F!LX K L P:Y X!M Y!N M N A:K", "FEA", "YX"},
		// F becomes ready by the processing behind the look alone.
		{"E!KQP F!LX Q:L K L P:Y X!M Y!N M N A:K", "EFA", "YX"},
		// Three: G is ready from the beginning, E by it and passed, F by it and not passed.
		{"E!KX F!LY G!MKL X!R Y!S K L M R S A:M", "EGFA", "YX"},
		{"E!KX F!LY G!MLK X!R Y!S K L M R S A:M", "GEFA", "XY"},
		{"E!KX F!LY G!MLK X!R Y!S K L M R S A:M", "GFEA", "YX"},
		// One that is passed has its turn ahead of what is met later, but behind what waits longer.
		{"E!KX F!LY G!MKL X!R Y!S K L M R S A:M", "FEGA", "YX"},
		// What stops waiting leaves the others in their order.
		{"E!R F!K G!S H!L I!T R S T K L A:KL", "EFGHIA", "EGI"},
		{"E!R F!K G!S H!L I!T R S T K L A:KL", "IHGFEA", "IGE"},
		// What waits from now on comes behind all that wait already.
		{"E!R F!KX G!S X!T R S T K A:K", "EFGA", "EGX"},
		{"F!KX E!R X!T R T K A:K", "FEA", "EX"},
	} {
		r := scene(t, c.text, c.stack)
		report := r.run()
		same(t, c.text+" "+c.stack+" fired", r.names(report.Fired), c.fired)
	}
}

// What has fired keeps all but its format, and its values.
func TestWhatHasFired(t *testing.T) {
	r := scene(t, "X E!KV. K eden V", "E")
	e := r.at('E')
	hash, _ := r.h.Hash(e)
	r.notes("E")
	r.runs(counts{kept: 3, freed: 1, moved: 2, fired: "E"})
	same(t, "header", r.head(r.at('E')), api.Header{Class: 'E', Format: api.FormatPointers, Hash: hash, Slots: 3, Noted: true})
	r.refers('E', "KV.")
	r.notes("E")
	same(t, "queued", r.h.Queued(), 0)
}

// Fired tells addresses behind the slide, of old ones and of others.
func TestAddressesInFired(t *testing.T) {
	r := scene(t, "past P!K future F!K eden E!K old X A!K Y B!K Z:# K C!K pins Q!K", "CQBAPEF")
	before := r.all("CQBAPEF")
	report := r.run()
	same(t, "fired", r.names(report.Fired), "CQBAPEF")
	for i, o := range report.Fired {
		want := before[i]
		switch r.name(o) {
		case "A":
			want -= 16
		case "B":
			want -= 32
		case "C":
			want -= 56
		}
		same(t, r.name(o), o, want)
	}
	same(t, "moved", report.Moved, 4)
}

// The list of the fired ones is the caller's own.
func TestFiredIsNewMemory(t *testing.T) {
	r := scene(t, "E!K F!K K", "EF")
	first := r.run().Fired
	first[0], first[1] = 0, 0
	r.succeeds(r.h.SetFormat(r.at('E'), api.FormatEphemeron))
	r.succeeds(r.h.SetFormat(r.at('F'), api.FormatEphemeron))
	second := r.run().Fired
	same(t, "fired", r.names(second), "EF")
	same(t, "the other list", first[0]+first[1], 0)
	same(t, "none", len(r.run().Fired), 0)
}

// Chains of very many ephemerons, in the order in which they were met and against it, that do not fire, and such as fire one in each round.
func TestManyEphemerons(t *testing.T) {
	const n = 20000
	for _, order := range []string{"in it", "against it", "in rounds"} {
		r := begin(t, api.Sizes{Eden: 64, Survivor: 16, Bound: 1 << 20})
		queue := r.of(api.Old, 'Q', api.FormatPointers, n+1)
		var links [n]api.Oop
		for i := range links {
			links[i] = r.of(api.Old, 'E', api.FormatEphemeron, 2)
			r.set(links[i], 0, r.of(api.Old, 'K', api.FormatPointers, 0))
		}
		// The value of each is the key of the next one, or in the last case that one itself.
		for i := range n - 1 {
			next := links[i+1]
			if order != "in rounds" {
				next = oopsOf(t, r.h, next)[0]
			}
			r.set(links[i], 1, next)
		}
		r.push(queue)
		want := api.Report{Kept: 2*n + 1}
		switch order {
		case "in rounds":
			r.set(queue, 0, links[0])
			want.Fired = links[:]
		default:
			for i := range n {
				at := i
				if order == "against it" {
					at = n - 1 - i
				}
				r.set(queue, at, links[i])
			}
			late := r.of(api.Old, 'L', api.FormatPointers, 1)
			r.set(late, 0, oopsOf(t, r.h, links[0])[0])
			r.set(queue, n, late)
			want.Kept++
		}
		sameReport(t, compact.Run(r.h), want)
	}
}

// The least and the greatest ephemeron.
func TestSizesOfEphemerons(t *testing.T) {
	for _, n := range []int{1, 2, api.MaxSlots} {
		r := begin(t, api.Sizes{Eden: 64, Survivor: 16, Bound: 1 << 17})
		e := r.of(api.Old, 'E', api.FormatEphemeron, n)
		k := r.of(api.Old, 'K', api.FormatPointers, 0)
		v := r.of(api.Old, 'V', api.FormatPointers, 0)
		r.set(e, n-1, v)
		r.set(e, 0, k)
		r.push(e)
		kept := min(n+1, 3)
		report := compact.Run(r.h)
		sameReport(t, report, api.Report{Kept: kept, Freed: 3 - kept, Fired: []api.Oop{e}})
		same(t, "format", r.head(e).Format, api.FormatPointers)
		if n == 1 {
			same(t, "value", r.h.Is(v), false)
		}
	}
}

// A key at the very last word that an address can tell is none of a heap's.
func TestKeyBeyondTheMemory(t *testing.T) {
	for _, v := range []api.Oop{8 * 268435455, 1 << 31, math.MaxUint64 &^ 7} {
		r := scene(t, "E!#V V", "E")
		r.spoil(r.at('E'), 0, v)
		r.runs(counts{kept: 2})
	}
}
