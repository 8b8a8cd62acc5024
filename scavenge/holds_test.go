package scavenge_test

import (
	"slices"
	"testing"

	"palaver/api"
	"palaver/scavenge"
)

// form is what is reachable from the roots, without addresses: reachable objects by the numbers that they get when they are met, in the order of roots and oops. An age is no part of it, nor whether something is marked or noted.
func form(r *trial) []uint64 {
	r.Helper()
	numbers := map[api.Oop]uint64{}
	var met []api.Oop
	name := func(v api.Oop) uint64 {
		if !r.h.Is(v) {
			return uint64(v)
		}
		if numbers[v] == 0 {
			met = append(met, v)
			numbers[v] = uint64(8 * len(met))
		}
		return numbers[v]
	}
	l := []uint64{uint64(r.h.Depth()), uint64(r.h.Queued())}
	for v := range r.h.Roots() {
		l = append(l, name(v))
	}
	for i := 0; i < len(met); i++ {
		x := r.head(met[i])
		l = append(l, uint64(x.Class), uint64(x.Format), uint64(x.Spare), uint64(x.Hash), uint64(x.Slots))
		for _, v := range oopsOf(r.T, r.h, met[i]) {
			l = append(l, name(v))
		}
		l = append(l, restOf(r.h, met[i])...)
	}
	return l
}

// What holds: the graph that is reachable from the roots is unchanged.
func TestGraphIsUnchanged(t *testing.T) {
	for seed := range uint64(8) {
		p := &player{trial: begin(t, wide()), seed: seed}
		runs, kept := 0, 0
		for range 1500 {
			p.client()
			if p.draw(15) > 0 {
				continue
			}
			before := form(p.trial)
			if report, e := p.run(p.draw(16)); e == api.OK {
				runs, kept = runs+1, kept+report.Kept
				if !slices.Equal(form(p.trial), before) {
					t.Fatalf("seed %d: the graph has changed", seed)
				}
				p.lies(api.Eden, "")
			}
			if t.Failed() {
				t.FailNow()
			}
			p.makeRoom()
		}
		if runs < 50 || kept < 500 {
			t.Errorf("seed %d: hardly anything was tried: %d runs, %d kept", seed, runs, kept)
		}
	}
}

// What holds: an object that has survived so many scavenges as the tenure is in old behind the next one.
func TestWhatHasSurvivedIsTenured(t *testing.T) {
	for tenure := range 16 {
		r := begin(t, small())
		r.push(r.object(api.Eden, 'A', 9))
		for range tenure {
			r.counts(tenure, 1, 0, 0)
			same(t, "space", r.h.Space(r.at('A')), api.Past)
		}
		r.counts(tenure, 1, 1, 0)
		same(t, "space", r.h.Space(r.at('A')), api.Old)
		same(t, "age", r.head(r.at('A')).Age, tenure)
	}
}

// Whatever is done in whatever order, also what no client does: a run does what its steps say.
func TestRandomSteps(t *testing.T) {
	for seed, z := range []api.Sizes{
		small(),
		{Eden: 64, Survivor: 16, Bound: 64},
		{Eden: 70, Survivor: 33, Bound: 101, Pins: 64},
		{Eden: 65, Survivor: 65, Bound: 300, Pins: 29},
		wide(),
	} {
		p := &player{trial: begin(t, z), seed: uint64(seed + 100)}
		runs, kept, tenured := 0, 0, 0
		for range 6000 {
			p.step()
			if p.draw(20) > 0 {
				continue
			}
			report, e := p.run([]int{-1, 0, 1, 1, 2, 2, 3, 7, 15, 16}[p.draw(10)])
			if t.Failed() {
				t.FailNow()
			}
			if e == api.OK {
				runs++
			}
			kept, tenured = kept+report.Kept, tenured+report.Tenured
			p.makeRoom()
		}
		if runs < 100 || tenured < 50 || kept < tenured+100 {
			t.Errorf("seed %d: hardly anything was tried: %d runs, %d kept, %d tenured", seed, runs, kept, tenured)
		}
	}
}

// Heaps have nothing to do with each other: of two to which the same is done, one beside a third one, both show the same.
func TestHeapsSideBySide(t *testing.T) {
	p := &player{trial: begin(t, small()), seed: 5}
	twin := &player{trial: begin(t, small()), seed: 5}
	other := &player{trial: begin(t, wide()), seed: 6}
	alone := begin(t, small())
	alone.push(alone.object(api.Eden, 'A'))
	before := pictureOf(alone)
	play := func(q *player) {
		for range 20 {
			q.step()
		}
		if _, e := scavenge.Run(q.h, q.draw(4)); e == api.OK {
			q.flips++
		}
		q.makeRoom()
	}
	for range 100 {
		play(p)
		play(other)
	}
	for range 100 {
		play(twin)
	}
	samePicture(t, pictureOf(twin.trial), pictureOf(p.trial))
	samePicture(t, pictureOf(alone), before)
	if p.flips < 20 {
		t.Error("hardly anything was tried:", p.flips)
	}
}
