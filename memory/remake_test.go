package memory_test

import (
	"math"
	"testing"

	"palaver/api"
	"palaver/heap"
)

// aHeader is one that may be a memory's, or nearly; with a place and literals for it.
func aHeader(draw func(below int) int, pins int) (at int, x api.Header, literals int) {
	x = api.Header{Class: draw(4100) - 2, Format: api.Format(draw(8)), Hash: draw(4194304), Age: draw(17), Slots: draw(9) - 1, Marked: draw(20) == 0, Noted: draw(20) == 0}
	at = draw(pins+6) - 3
	if draw(3) > 0 {
		at = -1
	}
	if x.Format == api.FormatBytes || x.Format == api.FormatMethod {
		x.Spare = draw(9)
	}
	if x.Format == api.FormatMethod || draw(10) == 0 {
		literals = draw(9) - 1
	}
	return at, x, literals
}

// Beside a heap of the same sizes, with whatever is asked: the same object at the same place, or the same error; but with ErrMemoryFull ahead of what has no room, and ErrMemoryPins for that.
func TestRemakeIsThatOfTheHeap(t *testing.T) {
	seed := uint64(1)
	draw := func(below int) int {
		seed = seed*6364136223846793005 + 1442695040888963407
		return int(seed >> 33 % uint64(below))
	}
	for _, z := range []api.Sizes{{Eden: 64, Survivor: 16, Bound: 120, Pins: 32, Tenure: 1}, {Eden: 64, Survivor: 16, Bound: 64}, {Eden: 64, Survivor: 64, Bound: 100, Pins: 300}} {
		errs := map[api.Errno]int{}
		for range 6 {
			r := begin(t, z)
			h, _ := heap.New(z)
			for range 150 {
				errs[r.remakesAs(h, draw)]++
			}
		}
		for _, e := range []api.Errno{api.OK, api.ErrArg, api.ErrMemoryFull, api.ErrMemoryPins} {
			if errs[e] < 4 {
				t.Errorf("error %d came %d times", e, errs[e])
			}
		}
	}
}

// remakesAs asks a memory and a heap that hold the same for the same, once; what the memory says.
func (r *trial) remakesAs(h *heap.Heap, draw func(below int) int) api.Errno {
	r.Helper()
	at, x, literals := aHeader(draw, r.z.Pins)
	before := pictureOf(r)
	o, e := r.m.Remake(at, x, literals)
	if before.Count+2+x.Slots > r.z.Bound && e != api.ErrArg {
		same(r.T, "error", e, api.ErrMemoryFull)
	} else {
		p, want := h.Remake(at, x, literals)
		if want == api.ErrHeapFull {
			want = api.ErrMemoryPins
		}
		if o != p || e != want {
			r.Fatalf("Remake(%d, %+v, %d): %d %d, not %d %d", at, x, literals, o, e, p, want)
		}
	}
	if e != api.OK {
		same(r.T, "beside an error", o, 0)
		samePicture(r.T, "after what failed", pictureOf(r), before)
		return e
	}
	r.sound()
	same(r.T, "count", r.m.Count(), before.Count+2+x.Slots)
	same(r.T, "header", r.head(o), x)
	same(r.T, "place", r.m.Heap().Place(o), at)
	return e
}

// The count plus the words of the object is Bound, or greater by one; in old and in pins. Nothing is collected.
func TestRemakeAtTheBound(t *testing.T) {
	for _, at := range []int{-1, 0, 3} {
		r := witness(t)
		r.waste(94)
		x := api.Header{Format: api.FormatWords, Slots: 3}
		before := pictureOf(r)
		x.Slots = 5
		r.refuses(api.ErrMemoryFull)(r.m.Remake(at, x, 0))
		samePicture(t, "full", pictureOf(r), before)
		x.Slots = 4
		want := api.OK
		if at == 3 {
			want = api.ErrMemoryPins // words 3 to 8 of 8
		}
		o, e := r.m.Remake(at, x, 0)
		r.fails(e, want)
		same(t, "object", o != 0, want == api.OK)
		if want == api.OK {
			same(t, "count", r.m.Count(), 100)
			r.refuses(api.ErrMemoryFull)(r.m.Remake(-1, api.Header{Format: api.FormatWords}, 0))
		}
		same(t, "collected", r.wasCollected(), false)
	}
}

// Errors in their order: what is invalid, what is too much, what has no room in pins.
func TestOrderOfErrorsOfRemake(t *testing.T) {
	r := begin(t, small())
	good := api.Header{Format: api.FormatWords, Slots: 63}
	r.refuses(api.ErrArg)(r.m.Remake(-2, good, 0))
	r.refuses(api.ErrArg)(r.m.Remake(math.MinInt, good, 0))
	r.refuses(api.ErrArg)(r.m.Remake(9, good, 1))
	r.refuses(api.ErrArg)(r.m.Remake(-1, api.Header{Format: api.FormatWords, Slots: 65537}, 0))
	r.refuses(api.ErrArg)(r.m.Remake(-1, api.Header{Format: api.FormatMethod, Slots: 65536}, 65536))
	r.refuses(api.ErrArg)(r.m.Remake(0, api.Header{Format: api.FormatMethod, Slots: 65536, Spare: 1}, 65535))
	r.refuses(api.ErrMemoryFull)(r.m.Remake(0, good, 0))
	r.refuses(api.ErrMemoryFull)(r.m.Remake(math.MaxInt, good, 0))
	good.Slots = 62
	for _, at := range []int{0, 1, 7, 8, 1 << 40, math.MaxInt} {
		r.refuses(api.ErrMemoryPins)(r.m.Remake(at, good, 0))
	}
	same(t, "count", r.m.Count(), 0)
	r.made(r.m.Remake(-1, good, 0))
	same(t, "count", r.m.Count(), 64)
	r.refuses(api.ErrMemoryFull)(r.m.Remake(0, api.Header{Format: api.FormatWords}, 0))
}

// Remade objects are objects like others: they live, move and are counted as these.
func TestRemadeObjectsAreObjects(t *testing.T) {
	r := begin(t, small())
	a := r.made(r.m.Remake(-1, api.Header{Class: 3, Format: api.FormatPointers, Slots: 2, Hash: 40}, 0))
	b := r.made(r.m.Remake(-1, api.Header{Class: 4, Format: api.FormatBytes, Slots: 2, Spare: 3}, 0))
	p := r.made(r.m.Remake(2, api.Header{Class: 5, Format: api.FormatMethod, Slots: 3, Spare: 7}, 1))
	same(t, "old", a, oldAt)
	same(t, "pins", p, pinsAt+16)
	r.succeeds(r.m.SetText(b, 0, "0123456789abc"))
	r.fails(r.m.SetText(b, 13, "x"), api.ErrHeapIndex)
	r.succeeds(r.m.SetText(p, 0, "x"))
	r.succeeds(r.m.SetSlot(p, 1, b))
	same(t, "oop", r.slot(a, 1), 0)
	same(t, "literals", r.slot(p, 0), 9)
	same(t, "hash", r.hash(a), 40)
	same(t, "hash", r.hash(b), 1)
	same(t, "count", r.m.Count(), 4+4+5)
	r.push(p)
	sameReport(t, r.collect(), api.Report{Kept: 2, Freed: 1, Moved: 1})
	same(t, "count", r.m.Count(), 9)
	same(t, "text", r.text(r.slot(r.root(0), 1)), "0123456789abc")
	same(t, "pinned", r.root(0), p)
}
