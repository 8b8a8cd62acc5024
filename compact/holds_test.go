package compact_test

import (
	"slices"
	"testing"

	"palaver/api"
	"palaver/compact"
	"palaver/scavenge"
)

// pairs goes through two pictures at once, from the roots: which object of the one is which of the other. What differs is told, but for weak oops that became special 0, and for the formats of those that have fired.
func pairs(t *testing.T, before, after picture, fired []api.Oop) map[api.Oop]api.Oop {
	t.Helper()
	one, other := map[api.Oop]api.Oop{}, map[api.Oop]api.Oop{}
	var queue []api.Oop
	pair := func(a, b api.Oop, weak bool) {
		_, is := before.Objects[a]
		_, has := after.Objects[b]
		switch {
		case weak && is && one[a] == 0:
			same(t, "cleared", b, after.Roots[0])
		case !is || !has:
			if a != b || is != has {
				t.Errorf("%d became %d", a, b)
			}
		case one[a] == 0 && other[b] == 0:
			one[a], other[b] = b, a
			queue = append(queue, a)
		case one[a] != b || other[b] != a:
			t.Errorf("%d became %d and %d", a, one[a], b)
		}
	}
	same(t, "roots", len(after.Roots), len(before.Roots))
	for i, v := range before.Roots {
		pair(v, after.Roots[i], false)
	}
	// Strong references first: so it is known of each object which one it is when weak ones are looked at.
	var weak []api.Oop
	for i := 0; i < len(queue); i++ {
		a, b := before.Objects[queue[i]], after.Objects[one[queue[i]]]
		if a.Head.Format == api.FormatWeak {
			weak = append(weak, queue[i])
			continue
		}
		for j, v := range a.Oops {
			pair(v, b.Oops[j], false)
		}
	}
	for _, o := range weak {
		for j, v := range before.Objects[o].Oops {
			pair(v, after.Objects[one[o]].Oops[j], true)
		}
	}
	for a, b := range one {
		x, y := before.Objects[a], after.Objects[b]
		if slices.Contains(fired, b) {
			same(t, "format ahead", x.Head.Format, api.FormatEphemeron)
			x.Head.Format = api.FormatPointers
		}
		x.Head.Marked = false
		x.Head.Noted, y.Head.Noted = false, false
		if x.Head != y.Head || x.Space != y.Space || !slices.Equal(x.Rest, y.Rest) {
			t.Errorf("%d became %d: %+v, %+v", a, b, x, y)
		}
	}
	return one
}

// What holds: the graph of what lives is unchanged but for what was cleared and what has fired; the old space has no gaps; and a heap that is sound stays so.
func TestGraphIsUnchanged(t *testing.T) {
	for seed := range uint64(3) {
		p := &player{trial: begin(t, wide()), seed: seed}
		sum := api.Report{}
		for i := range 4000 {
			p.client()
			p.makeRoom()
			if i%10 > 0 {
				continue
			}
			p.sound()
			before := pictureOf(p.trial)
			report := p.run()
			l := pairs(t, before, pictureOf(p.trial), report.Fired)
			same(t, "kept", report.Kept, len(l))
			p.packed()
			p.sound()
			sum.Kept, sum.Freed, sum.Moved, sum.Cleared = sum.Kept+report.Kept, sum.Freed+report.Freed, sum.Moved+report.Moved, sum.Cleared+report.Cleared
			sum.Fired = append(sum.Fired, report.Fired...)
			if t.Failed() {
				t.Fatal("seed", seed)
			}
		}
		if sum.Kept < 2000 || sum.Freed < 500 || sum.Moved < 500 || sum.Cleared < 100 || len(sum.Fired) < 50 {
			t.Errorf("seed %d: hardly anything was tried: %+v, %d fired", seed, sum, len(sum.Fired))
		}
	}
}

// Whatever is done in whatever order, also what makes a heap unsound: a run does what its steps say, and Check tells what it finds.
func TestRandomSteps(t *testing.T) {
	for seed, z := range []api.Sizes{
		small(),
		{Eden: 64, Survivor: 16, Bound: 64},
		{Eden: 70, Survivor: 33, Bound: 101, Pins: 64},
		{Eden: 65, Survivor: 65, Bound: 300, Pins: 29},
		wide(),
	} {
		p := &player{trial: begin(t, z), seed: uint64(seed + 100)}
		sum, errs := api.Report{}, map[api.Errno]int{}
		for i := range 5000 {
			p.step()
			p.makeRoom()
			if i%3 == 0 {
				e, o := compact.Check(p.h)
				err, object := pictureOf(p.trial).check()
				same(t, "check", e, err)
				same(t, "object", o, object)
				errs[e]++
				p.mend(e, o)
			}
			if i%13 == 0 {
				report := p.run()
				sum.Kept, sum.Freed, sum.Moved, sum.Cleared = sum.Kept+report.Kept, sum.Freed+report.Freed, sum.Moved+report.Moved, sum.Cleared+report.Cleared
				sum.Fired = append(sum.Fired, report.Fired...)
			}
			if t.Failed() {
				t.Fatal("seed", seed)
			}
		}
		if sum.Kept < 500 || sum.Freed < 500 || sum.Moved < 100 || sum.Cleared < 30 || len(sum.Fired) < 30 || len(errs) < 4 {
			t.Errorf("seed %d: hardly anything was tried: %+v, %d fired, checks %v", seed, sum, len(sum.Fired), errs)
		}
	}
}

// tangle is a heap with many ephemerons that hang together in whatever way, of which few are named by roots.
func tangle(t *testing.T, seed uint64) *player {
	p := &player{trial: begin(t, wide()), seed: seed}
	n := 6 + p.draw(40)
	var l []api.Oop
	for range n {
		f, size := api.FormatEphemeron, 1+p.draw(3)
		if p.draw(3) == 0 {
			f, size = api.FormatPointers, p.draw(3)
		} else if p.draw(12) == 0 {
			f = api.FormatWeak
		}
		l = append(l, p.of([]api.Space{api.Eden, api.Old, api.Old}[p.draw(3)], 'A', f, size))
	}
	for _, o := range l {
		for i := range oopsOf(t, p.h, o) {
			p.set(o, i, l[p.draw(n)])
		}
	}
	for range 1 + p.draw(4) {
		p.push(l[p.draw(n)])
	}
	return p
}

// Ephemerons in tangles: which fire, and in what order.
func TestTangles(t *testing.T) {
	fired := map[int]int{} // how often so many
	for seed := range uint64(3000) {
		report := tangle(t, seed).run()
		fired[min(len(report.Fired), 4)]++
		if t.Failed() {
			t.Fatal("seed", seed)
		}
	}
	for n := range 5 {
		if fired[n] < 100 {
			t.Error("hardly anything was tried:", fired)
		}
	}
}

// What holds: what lives without the help of weak slots and ephemerons is kept by every other collection, too.
func TestWhatLivesStronglyIsKeptByAllCollections(t *testing.T) {
	living := 0
	for seed := range uint64(300) {
		p := tangle(t, seed)
		// Each object has a class of its own, by which it is known wherever it goes.
		for i, o := range pictureOf(p.trial).order() {
			p.succeeds(p.h.SetClass(o, 1+i))
		}
		want := strong(pictureOf(p.trial))
		living += len(want)
		kept := func(collection string) {
			var classes []int
			for _, s := range pictureOf(p.trial).Objects {
				classes = append(classes, s.Head.Class)
			}
			for _, class := range want {
				if !slices.Contains(classes, class) {
					t.Fatalf("seed %d: %s has not kept %d", seed, collection, class)
				}
			}
		}
		for tenure := range 2 {
			if _, e := scavenge.Run(p.h, tenure); e != api.OK {
				t.Fatal(e)
			}
			p.flips++
			kept("a scavenge")
			p.run()
			kept("a run")
		}
		slices.Sort(want)
		got := strong(pictureOf(p.trial))
		slices.Sort(got)
		for _, class := range want {
			if !slices.Contains(got, class) {
				t.Fatalf("seed %d: %d lives no longer", seed, class)
			}
		}
	}
	if living < 500 {
		t.Error("hardly anything was tried:", living)
	}
}

// strong are the classes of what lives by roots, pointers and methods alone.
func strong(p picture) []int {
	var queue []api.Oop
	visit := func(l []api.Oop) {
		for _, v := range l {
			if _, is := p.Objects[v]; is && !slices.Contains(queue, v) {
				queue = append(queue, v)
			}
		}
	}
	visit(p.Roots)
	var classes []int
	for i := 0; i < len(queue); i++ {
		s := p.Objects[queue[i]]
		classes = append(classes, s.Head.Class)
		if s.Head.Format == api.FormatPointers || s.Head.Format == api.FormatMethod {
			visit(s.Oops)
		}
	}
	return classes
}

// Heaps have nothing to do with each other: of two to which the same is done, one beside a third one, both show the same.
func TestHeapsSideBySide(t *testing.T) {
	p := &player{trial: begin(t, small()), seed: 5}
	twin := &player{trial: begin(t, small()), seed: 5}
	other := &player{trial: begin(t, wide()), seed: 6}
	alone := scene(t, "X E!KV K V W?X eden A:X", "W")
	alone.h.Mark(alone.at('X'), true)
	before := pictureOf(alone)
	play := func(q *player) api.Report {
		for range 20 {
			q.step()
			q.makeRoom()
		}
		return compact.Run(q.h)
	}
	var reports []api.Report
	for range 100 {
		reports = append(reports, play(p))
		play(other)
	}
	for _, want := range reports {
		sameReport(t, play(twin), want)
	}
	samePicture(t, pictureOf(twin.trial), pictureOf(p.trial))
	samePicture(t, pictureOf(alone), before)
}
