package scavenge_test

import (
	"math"
	"reflect"
	"testing"

	"palaver/api"
	"palaver/heap"
	"palaver/scavenge"
)

// The exact signature: a caller may keep the function in a variable.
var _ func(*heap.Heap, int) (api.Report, api.Errno) = scavenge.Run

func TestExample(t *testing.T) {
	r := begin(t, api.Sizes{Eden: 64, Survivor: 16, Bound: 64})
	a := r.object(api.Eden, 'A', 0, 9)
	b := r.object(api.Eden, 'B', a)
	r.object(api.Eden, 'C')
	r.set(a, 0, b)
	_, e := r.h.Push(a)
	r.succeeds(e)
	r.counts(1, 2, 0, 1)
	r.lies(api.Past, "A1 B1")
	r.counts(1, 2, 2, 0)
	r.lies(api.Old, "A1 B1")
	r.counts(1, 0, 0, 0)
	r.lies(api.Old, "A1 B1")
	r.refers('A', "B#")
	r.refers('B', "A")
	r.roots("A")
}

func TestErrorsHaveTheirNumbers(t *testing.T) {
	r := begin(t, small())
	r.object(api.Eden, 'A')
	_, arg := scavenge.Run(r.h, 16)
	same(t, "tenure", arg, 1)
	r.fill(api.Old, 1)
	_, room := scavenge.Run(r.h, 15)
	same(t, "room", room, 50)
}

func TestTenuresAtTheirBounds(t *testing.T) {
	for _, tenure := range []int{-1, 16, 17, math.MinInt, math.MaxInt} {
		r := begin(t, small())
		b := r.object(api.Eden, 'B', 9)
		a := r.object(api.Eden, 'A', b)
		r.object(api.Old, 'O', a)
		r.push(a)
		r.fails(tenure, api.ErrArg)
		r.lies(api.Eden, "B0 A0")
		r.notes("O")
		r.counts(1, 2, 0, 0)
	}
	for tenure, past := range map[int]string{0: "", 1: "A1 B1", 15: "A1 B1"} {
		r := begin(t, small())
		b := r.object(api.Eden, 'B')
		r.push(r.object(api.Eden, 'A', b))
		_, e := r.run(tenure)
		r.succeeds(e)
		r.lies(api.Past, past)
	}
}

// crowded has 10 words of objects in eden and past, freed ones beside them, and 4 in the future space, which do not count.
func crowded(t *testing.T) *trial {
	r := begin(t, small())
	d := r.aged(r.object(api.Eden, 'D', 9), 1)
	r.push(d, r.aged(r.object(api.Eden, 'X', 9, 9, 9), 3))
	r.flip()
	_, e := r.h.Pop()
	r.succeeds(e)
	r.succeeds(r.h.Free(r.at('X')))
	b := r.object(api.Eden, 'B', d)
	r.succeeds(r.h.Free(r.object(api.Eden, 'Y', 9, 9)))
	r.push(r.object(api.Eden, 'A', b, 9))
	r.push(r.object(api.Future, 'F', 9, 9))
	same(t, "eden and past", r.h.Used(api.Eden)+r.h.Used(api.Past), 10)
	return r
}

func TestRoomOfOld(t *testing.T) {
	r := crowded(t)
	r.fill(api.Old, 10)
	r.counts(0, 3, 3, 0)
	same(t, "room", r.h.Room(api.Old), 0)
	r.lies(api.Past, "F0")
	for _, left := range []int{9, 1, 0} {
		r := crowded(t)
		if left > 0 {
			r.fill(api.Old, left)
		} else {
			r.fill(api.Old, 2)
			r.object(api.Old, 'O')
		}
		// What lives would find room, but the sum of what there is counts.
		r.fails(15, api.ErrScavengeRoom)
		r.fails(0, api.ErrScavengeRoom)
		r.fails(16, api.ErrArg)
		r.fails(-1, api.ErrArg)
		r.lies(api.Eden, "B0 A0")
		r.lies(api.Past, "D1")
		r.lies(api.Future, "F0")
	}
}

// Also what nobody names needs room in old.
func TestRoomOfOldForWhatIsGone(t *testing.T) {
	r := begin(t, small())
	o := r.object(api.Eden, 'A', 9)
	r.fill(api.Old, 2)
	r.fails(1, api.ErrScavengeRoom)
	r.succeeds(r.h.Free(o))
	r.counts(1, 0, 0, 0)
}

// Objects without anything in eden and past need no room at all.
func TestRoomOfNothing(t *testing.T) {
	r := begin(t, small())
	r.push(r.object(api.Future, 'F'))
	r.fill(api.Old, 2)
	r.object(api.Old, 'O')
	r.counts(0, 0, 0, 0)
	r.lies(api.Past, "F0")
}

func TestHeapWithoutObjects(t *testing.T) {
	r := begin(t, small())
	for tenure := range 16 {
		r.counts(tenure, 0, 0, 0)
	}
}

func TestReport(t *testing.T) {
	r := begin(t, wide())
	for _, name := range []byte("ABC") {
		r.push(r.aged(r.object(api.Eden, name, 9), int(name)%3))
	}
	r.aged(r.object(api.Eden, 'D', 9), 5)
	r.flip()
	e := r.object(api.Eden, 'E')
	r.object(api.Eden, 'F', e)
	r.succeeds(r.h.Free(r.object(api.Eden, 'G')))
	r.push(r.object(api.Eden, 'H', r.object(api.Eden, 'I')))
	r.object(api.Old, 'O')
	r.object(api.Pins, 'P')
	r.object(api.Future, 'Q')
	// The ages of A, B and C are 2, 0 and 1. D, E and F are named by nothing that lives.
	got, err := scavenge.Run(r.h, 2)
	want := api.Report{Kept: 5, Freed: 3, Tenured: 1}
	if !reflect.DeepEqual(got, want) || err != api.OK {
		t.Errorf("%+v %d, not %+v", got, err, want)
	}
	r.lies(api.Old, "O0 A2")
}

// What the spaces tell behind a run.
func TestSpacesAfterwards(t *testing.T) {
	r := begin(t, small())
	r.push(r.object(api.Future, 'P', 9))
	r.flip()
	r.push(r.object(api.Eden, 'A', 9, 9))
	r.object(api.Eden, 'B')
	r.push(r.object(api.Future, 'F', 9))
	r.object(api.Future, 'G')
	o := r.object(api.Old, 'O')
	same(t, "old", r.h.Room(api.Old), 152) // with the words that were freed
	r.object(api.Pins, 'Q', 9)
	r.counts(1, 2, 0, 1)
	for i, want := range []struct{ used, room int }{{0, 64}, {12, 4}, {0, 16}, {2, 152}, {3, 13}} {
		same(t, "used", r.h.Used(allSpaces[i]), want.used)
		same(t, "room", r.h.Room(allSpaces[i]), want.room)
	}
	r.lies(api.Eden, "")
	r.lies(api.Past, "F0 G0 P1 A1")
	r.lies(api.Future, "")
	r.lies(api.Old, "O0")
	r.lies(api.Pins, "Q0")
	same(t, "old object", r.at('O'), o)
	same(t, "past begins", r.at('F'), 528)
	same(t, "first copy", r.at('P'), 568)
	// Eden and the other half are filled from their beginning again.
	same(t, "eden", r.object(api.Eden, 'X'), 16)
	same(t, "future", r.object(api.Future, 'Y'), 656)
	same(t, "old", r.object(api.Old, 'Z'), api.Oop(784+8*8))
}

// No object is left in eden or in what was past, and no address there is forwarded any more.
func TestNothingIsLeft(t *testing.T) {
	r := begin(t, small())
	r.push(r.object(api.Future, 'P'))
	r.object(api.Future, 'Q')
	r.flip()
	r.push(r.object(api.Eden, 'A'))
	gone := r.object(api.Eden, 'B')
	r.succeeds(r.h.Forward(gone, r.at('A')))
	left := []api.Oop{r.at('A'), r.at('P'), r.at('Q'), gone}
	r.counts(2, 2, 0, 1)
	for _, o := range left {
		to, is := r.h.Forwarded(o)
		if r.h.Is(o) || is || to != 0 {
			t.Errorf("%d is left: forwarded to %d", o, to)
		}
	}
	r.lies(api.Eden, "")
	r.lies(api.Past, "P1 A1")
}

func TestTwoRunsOneBehindTheOther(t *testing.T) {
	r := begin(t, small())
	c := r.object(api.Eden, 'C')
	r.push(r.object(api.Eden, 'A', r.object(api.Eden, 'B', c), c))
	r.object(api.Old, 'O', c)
	r.counts(2, 3, 0, 0)
	same(t, "the second half", r.at('A'), 656)
	r.lies(api.Past, "A1 C1 B1")
	r.set(r.at('A'), 1, 9)
	r.set(r.at('B'), 0, 0)
	r.set(r.at('O'), 0, r.at('B'))
	r.push(r.object(api.Eden, 'D', r.at('O')))
	r.counts(2, 3, 0, 1)
	same(t, "the first half", r.at('A'), 528)
	r.lies(api.Past, "A2 D1 B2")
	r.notes("O")
	r.counts(2, 3, 2, 0)
	same(t, "the second half", r.at('D'), 656)
	r.lies(api.Past, "D2")
	r.lies(api.Old, "O0 A2 B2")
	r.notes("")
	r.counts(2, 1, 1, 0)
	r.lies(api.Old, "O0 A2 B2 D2")
	r.counts(2, 0, 0, 0)
	r.refers('A', "B#")
	r.refers('B', ".")
	r.refers('D', "O")
	r.refers('O', "B")
}
