package graph_test

import (
	"slices"
	"testing"

	"palaver/api"
	"palaver/compact"
	"palaver/graph"
	"palaver/scavenge"
)

// told is all that the calls tell, but for addresses: for these there are classes.
type told struct {
	form, from, reached []uint64
	living, fired       []int
}

func (r *trial) told(class int) told {
	r.Helper()
	living, fired := graph.Strong(r.h)
	x := told{form: graph.Form(r.h), living: r.classes(living), fired: r.classes(fired)}
	for _, o := range graph.Reached(r.h) {
		x.reached = append(x.reached, uint64(r.head(o).Class))
		if r.head(o).Class == class {
			x.from = graph.From(r.h, o, 'B')
		}
	}
	return x
}

func (r *trial) tells(what string, want told) {
	r.Helper()
	r.asks()
	got := r.told('A')
	sameList(r.T, what+": Form", got.form, want.form)
	sameList(r.T, what+": From", got.from, want.from)
	sameList(r.T, what+": Reached", got.reached, want.reached)
	sameList(r.T, what+": live", got.living, want.living)
	sameList(r.T, what+": fire", got.fired, want.fired)
}

// What holds: to move objects does not change what is told.
func TestMovingChangesNothing(t *testing.T) {
	for _, sp := range allSpaces {
		r := scene(t, "S T past U V eden Z:Y Y "+spaceNames()[sp]+" A:BC#. X B:AM C:B M*AB W?AB. E!AK D:X K pins Q", "AWED")
		r.laySecond()
		want := r.told('A')
		for _, name := range []byte("ST") {
			r.succeeds(r.h.Free(r.at(name)))
		}
		r.tells("freed", want)
		if n := r.h.Slide(); n == 0 {
			t.Error("nothing has moved")
		}
		r.tells("slid", want)
		if sp != api.Future {
			for _, tenure := range []int{1, 0, 3} {
				r.scavenges(tenure)
				r.tells("scavenged", want)
			}
		}
		r.succeeds(r.h.Free(r.at('Q')))
		report := compact.Run(r.h)
		same(t, "cleared", report.Cleared, 0)
		same(t, "fired", len(report.Fired), 0)
		r.tells("collected", want)
		same(t, "left", report.Kept, len(want.reached))
	}
}

func (r *trial) scavenges(tenure int) {
	r.Helper()
	_, e := scavenge.Run(r.h, tenure)
	r.succeeds(e)
	r.flips++
}

// A scavenge keeps what weak objects and ephemerons refer to; a full collection changes the form where it clears and lets fire.
func TestFullCollectionThatClearsAndFires(t *testing.T) {
	r := scene(t, "S W?XA A eden X E!KV K V", "WEA")
	want := r.told('A')
	r.scavenges(1)
	r.tells("scavenged", want)
	r.collects()
	r.forms([]uint64{8, 16, 24},
		thing('W', api.FormatWeak, 0, 24),
		thing('E', api.FormatPointers, 32, 40),
		thing('A', api.FormatPointers),
		thing('K', api.FormatPointers),
		thing('V', api.FormatPointers))
}

// What clients do, with scavenges and full collections between: in a sound heap the form changes by what these clear and let fire alone.
func TestRandomCollections(t *testing.T) {
	plain, changed := 0, 0
	for seed := range uint64(12) {
		p := &player{begin(t, small()), seed}
		for range 250 {
			p.client()
			if p.draw(5) > 0 {
				continue
			}
			form, reached := graph.Form(p.h), len(graph.Reached(p.h))
			if p.draw(2) == 0 {
				p.scavenge()
				sameList(t, "scavenged", graph.Form(p.h), form)
				same(t, "reached", len(graph.Reached(p.h)), reached)
				continue
			}
			report := compact.Run(p.h)
			same(t, "reached", len(graph.Reached(p.h)), report.Kept)
			living, fired := graph.Strong(p.h)
			same(t, "live", len(living), report.Kept)
			same(t, "fire", len(fired), 0)
			if report.Cleared == 0 && len(report.Fired) == 0 {
				sameList(t, "collected", graph.Form(p.h), form)
				plain++
			} else if changed++; slices.Equal(graph.Form(p.h), form) {
				t.Error("the form has not changed")
			}
			if t.Failed() {
				t.Fatalf("seed %d", seed)
			}
		}
	}
	if plain < 20 || changed < 20 {
		t.Errorf("%d have changed nothing, %d something", plain, changed)
	}
}

// What holds: what lives is reachable; without weak objects and ephemerons all of it lives, in the same order.
func TestLivingIsReached(t *testing.T) {
	all := 0
	for seed := range uint64(40) {
		p := &player{begin(t, wide()), seed}
		for range 40 {
			p.client()
		}
		reached := graph.Reached(p.h)
		living, fired := graph.Strong(p.h)
		for _, o := range living {
			if !slices.Contains(reached, o) {
				t.Errorf("seed %d: %d lives", seed, o)
			}
		}
		for _, o := range fired {
			if !slices.Contains(living, o) {
				t.Errorf("seed %d: %d fires", seed, o)
			}
		}
		if len(living) == len(reached) {
			all++
		}
		for o := range pictureOf(p.trial).Objects {
			p.h.SetFormat(o, api.FormatPointers)
		}
		living, fired = graph.Strong(p.h)
		sameList(t, "live", living, graph.Reached(p.h))
		sameList(t, "fire", fired, nil)
	}
	if all == 40 {
		t.Error("all lived that was reached")
	}
}

// Whatever the heap lets be done to it, also what makes it unsound: the calls tell what the model tells, and change nothing.
func TestRandomHeaps(t *testing.T) {
	for seed := range uint64(8) {
		p := &player{begin(t, small()), seed}
		for i := range 300 {
			p.step()
			if i%6 > 0 {
				continue
			}
			p.asks()
			o := p.anObject()
			p.asksFrom(o)
			p.asksFrom(p.aLeaf(o))
			p.asksFrom(o, p.aClass(), p.aClass(), p.aClass())
			if t.Failed() {
				t.Fatalf("seed %d, step %d", seed, i)
			}
		}
	}
}

// aLeaf is an oop of an object, or the object itself.
func (p *player) aLeaf(o api.Oop) api.Oop {
	n, _ := p.h.Oops(o)
	if v, e := p.h.Slot(o, p.draw(n+1)); e == api.OK {
		return v
	}
	return o
}

// aClass is that of an object, or another one.
func (p *player) aClass() int {
	x, _ := p.h.Head(p.anObject())
	return x.Class + p.draw(2)*p.draw(2)
}

// What is told is the caller's own, also what lies behind its length.
func TestWhatIsToldIsNewMemory(t *testing.T) {
	r := stage(t, "old")
	r.lay("G!XH H!IH I old")
	r.push(r.at('G'))
	spoil := func(l []uint64) {
		l = l[:cap(l)]
		for i := range l {
			l[i] = 1
		}
	}
	spoilOops := func(l []api.Oop) {
		l = l[:cap(l)]
		for i := range l {
			l[i] = 1
		}
	}
	o := r.at('A')
	want := []any{slices.Clone(graph.Form(r.h)), slices.Clone(graph.From(r.h, o))}
	form, again := graph.Form(r.h), graph.Form(r.h)
	from, fromAgain := graph.From(r.h, o), graph.From(r.h, o)
	reached, reachedAgain := graph.Reached(r.h), graph.Reached(r.h)
	living, fired := graph.Strong(r.h)
	livingAgain, firedAgain := graph.Strong(r.h)
	wantReached, wantLiving, wantFired := slices.Clone(reached), slices.Clone(living), slices.Clone(fired)
	same(t, "fire", r.names(fired), "GH")
	spoil(form)
	spoil(from)
	spoilOops(reached)
	spoilOops(living)
	sameList(t, "fire", fired, wantFired)
	spoilOops(fired)
	sameList(t, "Form", again, want[0].([]uint64))
	sameList(t, "From", fromAgain, want[1].([]uint64))
	sameList(t, "Reached", reachedAgain, wantReached)
	sameList(t, "Strong", livingAgain, wantLiving)
	sameList(t, "fire", firedAgain, wantFired)
	r.asks()
	r.asksFrom(o)
	// What changes in the heap later does not change what was told.
	r.set(o, 0, 0)
	sameList(t, "Form", again, want[0].([]uint64))
	sameList(t, "Reached", reachedAgain, wantReached)
}

// The leaves are neither changed nor kept.
func TestLeavesAreTheCallers(t *testing.T) {
	r := scene(t, "A:B B:C C:A", "")
	leaves := append(make([]int, 0, 8), 'C', 'B', 'C', -1)
	first := graph.From(r.h, r.at('A'), leaves...)
	sameList(t, "leaves", leaves[:8], []int{'C', 'B', 'C', -1, 0, 0, 0, 0})
	want := slices.Clone(first)
	leaves[0], leaves[1], leaves[2] = 'A', 'A', 'A'
	sameList(t, "From", first, want)
	r.froms(r.at('A'), nil, 8, thing('A', api.FormatPointers, 16), thing('B', api.FormatPointers, 24), thing('C', api.FormatPointers, 8))
	r.froms(r.at('A'), leaves, 8, leaf('A'))
}

// Heaps side by side tell each its own, though objects have the same addresses in both.
func TestHeapsSideBySide(t *testing.T) {
	one, other := begin(t, wide()), begin(t, wide())
	one.lay("A:BB B:A E!KV K V")
	other.lay("A:CB B:C C E!K. K")
	one.push(one.all("AE")...)
	other.push(other.all("EA")...)
	for range 2 {
		one.reaches("AEBKV")
		other.reaches("EAKCB")
		one.lives("AEBKV", "E")
		other.lives("EACBK", "E")
		same(t, "same", graph.Same(one.h, other.h), false)
	}
	same(t, "address", one.at('A'), other.at('A'))
	one.froms(one.at('A'), nil, 8, thing('A', api.FormatPointers, 16, 16), thing('B', api.FormatPointers, 8))
	other.froms(other.at('A'), nil, 8, thing('A', api.FormatPointers, 16, 24), thing('C', api.FormatPointers), thing('B', api.FormatPointers, 16))
	// An object of one heap is not one of another that has none there.
	empty := begin(t, wide())
	empty.froms(one.at('A'), nil, 4)
}
