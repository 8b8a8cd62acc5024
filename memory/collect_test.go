package memory_test

import (
	"testing"

	"palaver/api"
)

// With each Tenure: so many scavenges it stays young, by the next one it goes to old.
func TestScavengeWithEachTenure(t *testing.T) {
	for tenure := range 16 {
		r := begin(t, api.Sizes{Eden: 64, Survivor: 32, Bound: 64, Tenure: tenure})
		r.push(r.words(5), r.of(api.FormatPointers, 9))
		r.words(3)
		freed := 1
		for age := 1; age <= tenure; age++ {
			sameReport(t, r.scavenge(), api.Report{Kept: 2, Freed: freed})
			freed = 0
			for i := range 2 {
				same(t, "space", r.space(r.root(i)), api.Past)
				same(t, "age", r.head(r.root(i)).Age, age)
			}
		}
		sameReport(t, r.scavenge(), api.Report{Kept: 2, Tenured: 2, Freed: freed})
		same(t, "space", r.space(r.root(0)), api.Old)
		same(t, "space", r.space(r.root(1)), api.Old)
		sameReport(t, r.scavenge(), api.Report{})
		same(t, "count", r.m.Count(), 11)
	}
}

// A scavenge neither clears weak oops nor lets ephemerons fire, whether it is asked for or comes by itself, and frees nothing old.
func TestScavengesKeepWhatIsWeak(t *testing.T) {
	for _, asked := range []bool{true, false} {
		r := begin(t, api.Sizes{Eden: 64, Survivor: 32, Bound: 10000, Pins: 8, Tenure: 1})
		r.push(r.of(api.FormatWeak, r.words(3), 9), r.of(api.FormatEphemeron, r.words(4)))
		old := r.words(33)
		for range 5 {
			if asked {
				r.scavenge()
			} else {
				r.leave(1)
				r.words(2)
			}
			same(t, "weak", 2+r.head(r.slot(r.root(0), 0)).Slots, 3)
			same(t, "key", 2+r.head(r.slot(r.root(1), 0)).Slots, 4)
			same(t, "format", r.head(r.root(1)).Format, api.FormatEphemeron)
			same(t, "fired", r.m.Fired(), 0)
			same(t, "old", r.m.Heap().Is(old), true)
		}
		same(t, "space", r.space(r.slot(r.root(0), 0)), api.Old)
	}
}

// The report of a full collection, of which each field is another number.
func TestCollect(t *testing.T) {
	r := begin(t, api.Sizes{Eden: 128, Survivor: 64, Bound: 1024, Pins: 64, Tenure: 1})
	r.succeeds(r.m.SetSpecial(0, 25))
	r.words(70) // in old, ahead of those that live
	r.keep(71, 72)
	r.push(r.of(api.FormatWeak, r.words(3), r.words(3), r.words(4), 9, r.root(0)))
	r.pins(r.words(5))
	r.push(r.of(api.FormatEphemeron, r.words(2), 9))
	report := r.collect()
	sameReport(t, report, api.Report{Kept: 5, Freed: 5, Moved: 2, Cleared: 3, Fired: []api.Oop{r.root(3)}})
	same(t, "count", r.m.Count(), 71+72+7+4+2)
	sameList(t, "weak", r.look(r.root(2)).Oops, []api.Oop{25, 25, 25, 9, r.root(0)})
	same(t, "room", r.m.Heap().Room(api.Pins), 64)
	// What was returned is the caller's.
	report.Fired[0] = 0
	sameList(t, "queue", r.queue(), []api.Oop{r.root(3)})
	sameReport(t, r.collect(), api.Report{Kept: 5})
	sameReport(t, begin(t, small()).collect(), api.Report{})
}

// Ephemerons that fire go into the queue behind what is there, in their order, live there till they are asked for, and fire but once.
func TestFired(t *testing.T) {
	r := begin(t, api.Sizes{Eden: 64, Survivor: 32, Bound: 200, Pins: 16, Tenure: 1})
	same(t, "fired", r.m.Fired(), 0)
	ephemeron := func(class int) int {
		e := r.of(api.FormatEphemeron, r.words(2), r.words(3))
		r.succeeds(r.m.SetClass(e, class))
		return r.push(e)
	}
	for class := 11; class <= 13; class++ {
		ephemeron(class)
	}
	r.made(r.m.Pin(r.root(1)))
	report := r.collect()
	sameList(t, "fired", r.classesOf(report.Fired), []int{11, 12, 13})
	sameList(t, "fired", report.Fired, []api.Oop{r.root(0), r.root(1), r.root(2)})
	for r.m.Depth() > 0 {
		r.m.Pop()
	}
	ephemeron(21)
	ephemeron(20)
	sameList(t, "fired", r.classesOf(r.collect().Fired), []int{21, 20})
	// The queue alone names most of them now.
	for range 3 {
		r.words(30)
		r.scavenge()
		sameReport(t, r.collect(), api.Report{Kept: 15, Freed: 0, Moved: 0})
		sameList(t, "queue", r.classesOf(r.queue()), []int{11, 12, 13, 21, 20})
	}
	for _, want := range []int{11, 12, 13, 21, 20} {
		o := r.made(r.m.Fired(), api.OK)
		class, _ := r.m.ClassOf(o)
		same(t, "class", class, want)
		same(t, "format", r.head(o).Format, api.FormatPointers)
		same(t, "key", 2+r.head(r.slot(o, 0)).Slots, 2)
		same(t, "value", 2+r.head(r.slot(o, 1)).Slots, 3)
	}
	same(t, "fired", r.m.Fired(), 0)
	sameReport(t, r.collect(), api.Report{Kept: 6, Freed: 9, Moved: 6})
	same(t, "count", r.m.Count(), 2*(4+2+3))
}

// They also fire in a collection that a creation performs: each of them.
func TestFiredByACreation(t *testing.T) {
	for _, c := range creations() {
		r := witness(t)
		k := r.words(3)
		e := r.of(api.FormatEphemeron, k)
		r.push(e)
		r.push(r.of(api.FormatEphemeron, k, r.root(2)))
		r.waste(91)
		same(t, "fired ahead", r.m.Fired(), 0)
		r.made(c.make(r, 10))
		sameList(t, c.what, r.queue(), []api.Oop{r.root(2), r.root(3)})
		same(t, c.what, r.made(r.m.Fired(), api.OK), r.root(2))
		same(t, c.what, r.made(r.m.Fired(), api.OK), r.root(3))
		same(t, c.what, r.m.Fired(), 0)
		same(t, c.what+": count", r.m.Count(), 20+3+3+4+10)
	}
}

// Check tells what is not sound: it asks the heap itself.
func TestCheck(t *testing.T) {
	r := begin(t, wide())
	h := r.m.Heap()
	o := r.words(4)
	r.push(o)
	if e := h.Replace(0, func(api.Oop) api.Oop { return 24 }); e != api.OK {
		t.Error(e)
	}
	same(t, "root", r.m.Check(), api.ErrHeapRoot)
	r.m.Pop()
	same(t, "sound again", r.m.Check(), api.OK)
	p := r.of(api.FormatPointers, o)
	if e := h.Replace(p, func(api.Oop) api.Oop { return 3 }); e != api.OK {
		t.Error(e)
	}
	same(t, "oop", r.m.Check(), api.ErrHeapOop)
	r.m.SetSlot(p, 0, 9)
	h.Mark(p, true)
	same(t, "mark", r.m.Check(), api.ErrArg)
	h.Mark(p, false)
	same(t, "sound again", r.m.Check(), api.OK)
	q := r.pins(r.of(api.FormatPointers, r.words(200)))
	h.Replace(q, func(api.Oop) api.Oop { return p })
	same(t, "not noted", r.m.Check(), api.ErrHeapKind)
}
