package memory_test

import (
	"math"
	"slices"
	"strings"
	"testing"

	"palaver/api"
)

// creation makes an object of so many words in one of the ways in which objects are made.
type creation struct {
	what string
	make func(r *trial, size int) (api.Oop, api.Errno)
}

// creations are all ways that may collect. What Clone takes is root 0, which has to have that size.
func creations() []creation {
	return []creation{
		{"Alloc", func(r *trial, size int) (api.Oop, api.Errno) {
			return r.m.Alloc(5, api.FormatPointers, size-2)
		}},
		{"AllocMethod", func(r *trial, size int) (api.Oop, api.Errno) {
			return r.m.AllocMethod(5, 1, 8*(size-4))
		}},
		{"AllocText", func(r *trial, size int) (api.Oop, api.Errno) {
			return r.m.AllocText(5, strings.Repeat("x", 8*(size-2)))
		}},
		{"Clone", func(r *trial, size int) (api.Oop, api.Errno) {
			o, _ := r.m.Root(0)
			return r.m.Clone(o)
		}},
	}
}

// Each kind of object by its words: the count grows by them, and so does what the spaces hold.
func TestCountOfEachCreation(t *testing.T) {
	r := begin(t, api.Sizes{Eden: 256, Survivor: 64, Bound: 4096, Pins: 64})
	m := r.m
	adds := func(want int) func(api.Oop, api.Errno) {
		before := m.Count()
		return func(o api.Oop, e api.Errno) {
			t.Helper()
			r.made(o, e)
			same(t, "added", m.Count()-before, want)
			same(t, "words", 2+r.head(o).Slots, want)
			before = m.Count()
			r.made(m.Clone(o))
			same(t, "added by a clone", m.Count()-before, want)
		}
	}
	for n, want := range map[int]int{0: 2, 1: 3, 7: 9, 200: 202} {
		for _, f := range []api.Format{api.FormatPointers, api.FormatWeak, api.FormatEphemeron, api.FormatWords} {
			if n > 0 || f != api.FormatEphemeron {
				adds(want)(m.Alloc(5, f, n))
			}
		}
	}
	for n, want := range map[int]int{0: 2, 1: 3, 8: 3, 9: 4, 16: 4, 17: 5} {
		adds(want)(m.Alloc(5, api.FormatBytes, n))
		adds(want)(m.AllocText(5, strings.Repeat("x", n)))
		adds(want + 1)(m.AllocMethod(5, 0, n))
		adds(want + 4)(m.AllocMethod(5, 3, n))
	}
	adds(5)(m.Remake(-1, api.Header{Format: api.FormatWeak, Slots: 3}, 0))
	adds(6)(m.Remake(1, api.Header{Format: api.FormatMethod, Slots: 4, Spare: 2}, 1))
	before := m.Count()
	r.scavenge()
	same(t, "count behind a scavenge", m.Count(), before)
}

// What is no creation leaves the count as it is, also where objects are gone.
func TestCountStays(t *testing.T) {
	r := begin(t, wide())
	r.push(r.of(api.FormatPointers, 9), r.made(r.m.AllocText(5, "abc")))
	r.waste(100)
	r.scavenge()
	same(t, "used", r.m.Heap().Used(api.Eden)+r.m.Heap().Used(api.Past), 6)
	p := r.made(r.m.Pin(r.root(1)))
	r.made(r.m.Pin(p))
	r.succeeds(r.m.Become([]api.Oop{p}, []api.Oop{r.root(0)}))
	r.hash(p)
	r.succeeds(r.m.SetText(p, 0, "x"))
	r.succeeds(r.m.SetClass(p, 9))
	r.m.Pop()
	r.m.Fired()
	r.refuses(api.ErrArg)(r.m.Alloc(5, api.FormatMethod, 1))
	r.refuses(api.ErrMemoryPins)(r.m.Remake(0, api.Header{Format: api.FormatWords, Slots: 63}, 0))
	same(t, "count", r.m.Count(), 100)
}

// Behind a full collection the count is the words of what lives: in all spaces, with what weak objects and ephemerons keep or don't.
func TestCountBehindCollect(t *testing.T) {
	r := begin(t, wide())
	live := 0
	for _, size := range []int{3, 5, 130, 140} {
		r.push(r.words(size))
		r.words(size + 1)
		live += size
	}
	p := r.push(r.words(10))
	r.made(r.m.Pin(r.root(p)))
	r.made(r.m.Pin(r.words(11)))
	live += 10
	r.push(r.of(api.FormatWeak, r.words(20)))
	live += 3
	k := r.words(4)
	r.push(r.of(api.FormatEphemeron, k, r.words(6)))
	live += 4 + 4 + 6
	r.scavenge()
	r.push(r.words(8))
	live += 8
	if r.m.Count() < live+5 {
		t.Errorf("nothing to collect: %d %d", r.m.Count(), live)
	}
	r.collect()
	same(t, "count", r.m.Count(), live)
	for r.m.Depth() > 0 {
		r.m.Pop()
	}
	r.collect()
	same(t, "the one that has fired", r.m.Count(), 4+4+6)
	r.m.Fired()
	r.collect()
	same(t, "nothing", r.m.Count(), 0)
}

// witness is a memory of Bound 100 in which a weak object tells whether there was a full collection: its oop is 9 then. It and root 0, which creations clone, have 20 words together, and what is weakly named 4.
func witness(t *testing.T) *trial {
	t.Helper()
	r := begin(t, api.Sizes{Eden: 64, Survivor: 32, Bound: 100, Pins: 8, Tenure: 1})
	r.succeeds(r.m.SetSpecial(0, 9))
	r.push(r.words(10), r.of(api.FormatWeak, r.words(4), 17, 17, 17, 17, 17, 17, 17))
	same(t, "count", r.m.Count(), 24)
	return r
}

func (r *trial) wasCollected() bool {
	r.Helper()
	return r.slot(r.root(1), 0) == 9
}

// The count plus the words of the object equal to Bound: nothing is collected. Greater by one: everything.
func TestMomentOfACollection(t *testing.T) {
	for _, c := range creations() {
		r := witness(t)
		r.waste(90)
		r.made(c.make(r, 10))
		same(t, c.what+": count", r.m.Count(), 100)
		same(t, c.what+": collected", r.wasCollected(), false)

		r = witness(t)
		r.waste(91)
		r.made(c.make(r, 10))
		same(t, c.what+": count", r.m.Count(), 30)
		same(t, c.what+": collected", r.wasCollected(), true)
	}
}

// Also when it is greater by much, because one object has more words than Bound.
func TestMomentOfACollectionForAGreatObject(t *testing.T) {
	for size, want := range map[int]api.Errno{76: api.OK, 77: api.OK, 80: api.OK, 81: api.ErrMemoryFull, 100: api.ErrMemoryFull, 101: api.ErrMemoryFull, 65538: api.ErrMemoryFull} {
		r := witness(t)
		o, e := r.m.Alloc(5, api.FormatWords, size-2)
		r.fails(e, want)
		same(t, "object", o != 0, want == api.OK)
		same(t, "collected", r.wasCollected(), size > 76)
		if want == api.OK {
			same(t, "space", r.space(o), api.Old)
		} else {
			same(t, "count", r.m.Count(), 20)
		}
	}
}

// ErrMemoryFull comes only when what lives has no room for the object; the collection stays in effect, and nothing else happens, also when it is asked for again.
func TestMemoryFull(t *testing.T) {
	for _, c := range creations() {
		r := witness(t)
		r.keep(30, 25, 16)
		gone := r.words(5)
		same(t, "count", r.m.Count(), 100)
		same(t, "collected ahead", r.wasCollected(), false)
		r.refuses(api.ErrMemoryFull)(c.make(r, 10))
		same(t, c.what+": collected", r.wasCollected(), true)
		same(t, c.what+": count", r.m.Count(), 91)
		same(t, c.what+": kept", r.m.Heap().Is(gone), false)

		before := pictureOf(r)
		r.refuses(api.ErrMemoryFull)(c.make(r, 10))
		samePicture(t, c.what+" again", pictureOf(r), before)
		// One word less fits, and then nothing does.
		r.keep(9)
		same(t, c.what+": count", r.m.Count(), 100)
		r.refuses(api.ErrMemoryFull)(r.m.Alloc(5, api.FormatPointers, 0))
		r.m.Pop()
		r.m.Pop()
		r.made(c.make(r, 10))
		same(t, c.what+": count", r.m.Count(), 85)
		same(t, c.what+": live", r.collect().Kept, 4)
	}
}

// What lives and the object together have exactly Bound words: it is made.
func TestMemoryJustNotFull(t *testing.T) {
	for _, c := range creations() {
		r := witness(t)
		r.keep(30, 25, 15)
		r.waste(99)
		r.made(c.make(r, 10))
		same(t, c.what+": count", r.m.Count(), 100)
		same(t, c.what+": collected", r.wasCollected(), true)
	}
}

// In eden, what has at most half of its words; in old, what has more.
func TestSpaceOfAnObject(t *testing.T) {
	for eden, half := range map[int]int{64: 32, 65: 32, 66: 33, 67: 33, 1000: 500} {
		for _, c := range creations() {
			for size := half - 2; size <= half+3; size++ {
				r := begin(t, api.Sizes{Eden: eden, Survivor: 64, Bound: 4096, Tenure: 1})
				r.push(r.words(size))
				r.scavenge()
				o := r.made(c.make(r, size))
				want := api.Eden
				if size > half {
					want = api.Old
				}
				if r.space(o) != want {
					t.Errorf("%s of %d words, eden %d: space %d", c.what, size, eden, r.space(o))
				}
				same(t, "words", 2+r.head(o).Slots, size)
			}
		}
	}
}

// Eden has just enough room: nothing moves. One word too few: a scavenge ahead, by the memory's own Tenure.
func TestScavengeAheadOfAnObject(t *testing.T) {
	for _, c := range creations() {
		for tenure, kept := range map[int]api.Space{0: api.Old, 1: api.Past, 15: api.Past} {
			for _, size := range []int{5, 32} {
				z := api.Sizes{Eden: 64, Survivor: 64, Bound: 4096, Tenure: tenure}
				r := begin(t, z)
				// What is cloned does not lie in eden any more: all of that is left to what follows.
				r.push(r.words(size))
				r.scavenge()
				r.push(r.words(4))
				r.leave(size)
				o := r.made(c.make(r, size))
				same(t, c.what+": space", r.space(o), api.Eden)
				same(t, c.what+": room", r.m.Heap().Room(api.Eden), 0)
				same(t, c.what+": not moved", r.space(r.root(1)), api.Eden)

				r = begin(t, z)
				r.push(r.words(size))
				r.scavenge()
				r.push(r.words(4))
				r.leave(size - 1)
				count := r.m.Count()
				o = r.made(c.make(r, size))
				same(t, c.what+": object", o, edenAt)
				same(t, c.what+": room", r.m.Heap().Room(api.Eden), 64-size)
				same(t, c.what+": moved", r.space(r.root(1)), kept)
				same(t, c.what+": count", r.m.Count(), count+size)
			}
		}
	}
}

// What goes to old needs no room in eden.
func TestGreatObjectsDoNotScavenge(t *testing.T) {
	for _, c := range creations() {
		r := begin(t, api.Sizes{Eden: 64, Survivor: 64, Bound: 4096})
		r.keep(33, 4)
		r.leave(0)
		o := r.made(c.make(r, 33))
		same(t, c.what+": space", r.space(o), api.Old)
		same(t, c.what+": not moved", r.space(r.root(1)), api.Eden)
		same(t, c.what+": room", r.m.Heap().Room(api.Eden), 0)
	}
}

// A full collection leaves gaps in eden, which are not filled: a scavenge follows where its end is reached.
func TestScavengeBehindACollection(t *testing.T) {
	for _, c := range creations() {
		for _, room := range []int{10, 9} {
			r := begin(t, api.Sizes{Eden: 64, Survivor: 32, Bound: 95, Tenure: 1})
			r.keep(10, 4)
			r.leave(room)
			r.words(35)
			same(t, "count", r.m.Count()+10 > 95, true)
			o := r.made(c.make(r, 10))
			same(t, c.what+": count", r.m.Count(), 24)
			if room == 10 {
				same(t, c.what+": room", r.m.Heap().Room(api.Eden), 0)
				same(t, c.what+": not moved", r.space(r.root(1)), api.Eden)
			} else {
				same(t, c.what+": object", o, edenAt)
				same(t, c.what+": moved", r.space(r.root(1)), api.Past)
			}
		}
	}
}

// There is always room: in the end all of Bound may live, in whatever spaces.
func TestAllOfBoundMayLive(t *testing.T) {
	for _, z := range []api.Sizes{small(), {Eden: 64, Survivor: 64, Bound: 300, Pins: 40}, {Eden: 1000, Survivor: 16, Bound: 64}, {Eden: 70, Survivor: 16, Bound: 500, Pins: 20, Tenure: 15}} {
		for size := 3; size < 60; size += 7 {
			r := begin(t, z)
			for round := range 3 {
				for r.m.Count()+size <= z.Bound {
					o := r.words(size)
					at := r.push(o)
					if at%5 == round {
						r.m.Pin(o)
					}
				}
				r.refuses(api.ErrMemoryFull)(r.m.Alloc(5, api.FormatWords, size-2))
				for i := range r.m.Depth() {
					if i%2 == 0 {
						r.succeeds(r.m.SetRoot(i, 0))
					}
				}
				r.collect()
			}
		}
	}
}

// What may not be made: ahead of any collection, however full the memory is.
func TestInvalidArguments(t *testing.T) {
	r := witness(t)
	r.waste(100)
	before := pictureOf(r)
	refused := r.refuses(api.ErrArg)
	for _, class := range []int{-1, 4096, math.MinInt, math.MaxInt} {
		refused(r.m.Alloc(class, api.FormatPointers, 1))
		refused(r.m.AllocMethod(class, 1, 1))
		refused(r.m.AllocText(class, "abc"))
	}
	for _, f := range []api.Format{0, 6, 7, 255} {
		refused(r.m.Alloc(5, f, 1))
	}
	for _, f := range []api.Format{1, 2, 3, 4} {
		for _, n := range []int{-1, 65537, math.MinInt, math.MaxInt} {
			refused(r.m.Alloc(5, f, n))
		}
	}
	refused(r.m.Alloc(5, api.FormatEphemeron, 0))
	for _, n := range []int{-1, 8*65536 + 1, math.MinInt, math.MaxInt} {
		refused(r.m.Alloc(5, api.FormatBytes, n))
	}
	for _, l := range [][2]int{{-1, 0}, {0, -1}, {65536, 0}, {65535, 1}, {65534, 9}, {0, 8*65535 + 1}, {math.MaxInt, math.MaxInt}, {math.MinInt, 0}, {0, math.MinInt}} {
		refused(r.m.AllocMethod(5, l[0], l[1]))
	}
	refused(r.m.AllocText(5, strings.Repeat("x", 524289)))
	samePicture(t, "after what failed", pictureOf(r), before)
	same(t, "collected", r.wasCollected(), false)
	// What may be made, but has no room, is another thing.
	refused = r.refuses(api.ErrMemoryFull)
	refused(r.m.Alloc(4095, api.FormatWords, 65536))
	refused(r.m.Alloc(0, api.FormatBytes, 524288))
	refused(r.m.AllocMethod(0, 65535, 0))
	refused(r.m.AllocMethod(0, 0, 524280))
	refused(r.m.AllocText(5, strings.Repeat("x", 524288)))
	same(t, "collected", r.wasCollected(), true)
}

// The greatest objects that there are.
func TestGreatestObjects(t *testing.T) {
	r := begin(t, api.Sizes{Eden: 65536, Survivor: 16, Bound: 1048576})
	for _, o := range []api.Oop{
		r.made(r.m.Alloc(4095, api.FormatPointers, 65536)),
		r.made(r.m.Alloc(0, api.FormatBytes, 524288)),
		r.made(r.m.AllocMethod(5, 65535, 0)),
		r.made(r.m.AllocMethod(5, 0, 524280)),
		r.made(r.m.AllocMethod(5, 10000, 8*55535)),
	} {
		same(t, "slots", r.head(o).Slots, 65536)
		same(t, "space", r.space(o), api.Old)
	}
	same(t, "count", r.m.Count(), 5*65538)
}

func TestAllocText(t *testing.T) {
	r := begin(t, api.Sizes{Eden: 65536, Survivor: 16, Bound: 1048576})
	long := strings.Repeat("01234567", 65536)
	for _, s := range []string{"", "a", "12345678", "123456789", "\x00\xff\x80é", long[1:], long} {
		o := r.made(r.m.AllocText(4095, s))
		if r.text(o) != s {
			t.Errorf("a text of %d bytes is another one", len(s))
		}
		x := r.head(o)
		same(t, "class", x.Class, 4095)
		same(t, "format", x.Format, api.FormatBytes)
		same(t, "slots", x.Slots, (len(s)+7)/8)
		same(t, "spare", x.Spare, 8*x.Slots-len(s))
	}
	r.refuses(api.ErrArg)(r.m.AllocText(5, long+"x"))
}

// What is made has nothing of what lay there before: its oops are special 0, the rest is 0.
func TestNewObjectsAreEmpty(t *testing.T) {
	for _, nought := range []api.Oop{0, 9, 778} {
		r := begin(t, small())
		for range 30 {
			o := r.made(r.m.AllocText(5, strings.Repeat("\xff", 90)))
			p := r.alloc(api.FormatWords, 10)
			for i := range 10 {
				r.succeeds(r.m.SetWord(p, i, math.MaxUint64))
			}
			same(t, "text", len(r.text(o)), 90)
		}
		r.succeeds(r.m.SetSpecial(0, nought))
		for range 30 {
			r.hasOops(r.alloc(api.FormatPointers, 3), nought, nought, nought)
			r.hasOops(r.alloc(api.FormatWeak, 2), nought, nought)
			r.hasOops(r.alloc(api.FormatEphemeron, 1), nought)
			r.hasOops(r.alloc(api.FormatPointers, 33), slices.Repeat([]api.Oop{nought}, 33)...)
			r.hasOops(r.made(r.m.AllocMethod(5, 2, 9)), 17, nought, nought)
			same(t, "bytes", r.text(r.made(r.m.AllocMethod(5, 2, 9))), strings.Repeat("\x00", 9))
			same(t, "bytes", r.text(r.made(r.m.Alloc(5, api.FormatBytes, 10))), strings.Repeat("\x00", 10))
			same(t, "words", slices.Max(r.look(r.words(6)).Words), 0)
		}
	}
}

func (r *trial) hasOops(o api.Oop, want ...api.Oop) {
	r.Helper()
	sameList(r.T, "oops", r.look(o).Oops, want)
	x := r.head(o)
	same(r.T, "hash and age", x.Hash+x.Age, 0)
	same(r.T, "marked", x.Marked, false)
}

// Special 0 is an object that the call itself moves: by a scavenge, by sliding old, by both. The new oops name it where it is then.
func TestSpecial0MovedByTheCall(t *testing.T) {
	r := begin(t, api.Sizes{Eden: 64, Survivor: 32, Bound: 300, Tenure: 1})
	named := func(o api.Oop, first int) {
		t.Helper()
		now := r.made(r.m.Special(0))
		for _, v := range r.look(o).Oops[first:] {
			same(t, "oop", v, now)
		}
		class, _ := r.m.ClassOf(now)
		same(t, "class", class, 77)
	}
	r.succeeds(r.m.SetSpecial(0, r.made(r.m.Alloc(77, api.FormatWords, 3))))
	ahead, _ := r.m.Special(0)
	r.leave(4)
	named(r.alloc(api.FormatPointers, 3), 0)
	behind, _ := r.m.Special(0)
	same(t, "moved by a scavenge", ahead != behind && r.space(behind) == api.Past, true)
	r.leave(4)
	named(r.made(r.m.AllocMethod(5, 2, 8)), 1)
	behind, _ = r.m.Special(0)
	same(t, "moved to old", r.space(behind), api.Old)

	// In old something that nobody names lies ahead of it.
	r = begin(t, api.Sizes{Eden: 64, Survivor: 32, Bound: 100, Tenure: 1})
	r.words(40)
	r.succeeds(r.m.SetSpecial(0, r.made(r.m.Alloc(77, api.FormatPointers, 38))))
	r.leave(47)
	ahead, _ = r.m.Special(0)
	same(t, "ahead", r.space(ahead), api.Old)
	named(r.alloc(api.FormatWeak, 2), 0)
	behind, _ = r.m.Special(0)
	same(t, "slid", ahead > behind && r.space(behind) == api.Old, true)

	// Both: a full collection, and behind it a scavenge.
	r = begin(t, api.Sizes{Eden: 64, Survivor: 32, Bound: 110, Tenure: 0})
	r.words(50)
	r.succeeds(r.m.SetSpecial(0, r.made(r.m.Alloc(77, api.FormatPointers, 3))))
	r.leave(4)
	r.waste(110)
	named(r.alloc(api.FormatPointers, 20), 0)
	same(t, "count", r.m.Count(), 27)
	behind, _ = r.m.Special(0)
	same(t, "at the beginning of old", behind, 8*(2+64+32+32))
}

// Special 0 is young, and the object is old: it has to be noted, so that a scavenge finds it.
func TestOldObjectsWithYoungSpecial0(t *testing.T) {
	r := begin(t, wide())
	r.succeeds(r.m.SetSpecial(0, r.alloc(api.FormatPointers, 1)))
	o := r.alloc(api.FormatPointers, 200)
	m := r.made(r.m.AllocMethod(5, 3, 1500))
	sameList(t, "noted", r.noted(), []api.Oop{o, m})
	r.push(o, m)
	r.scavenge()
	now, _ := r.m.Special(0)
	same(t, "oop", r.slot(r.root(0), 199), now)
	same(t, "oop", r.slot(r.root(1), 3), now)
}
