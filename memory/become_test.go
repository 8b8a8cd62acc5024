package memory_test

import (
	"slices"
	"testing"

	"palaver/api"
)

// becomes asks that Become exchanges the names of objects everywhere, and does nothing else: each object keeps its address, its header and its slots, but for the names in them.
func (r *trial) becomes(a, b []api.Oop) {
	r.Helper()
	names := map[api.Oop]api.Oop{}
	for i := range a {
		names[a[i]], names[b[i]] = b[i], a[i]
	}
	before, noted := pictureOf(r), r.noted()
	givenA, givenB := slices.Clone(a), slices.Clone(b)
	r.succeeds(r.m.Become(a, b))
	after := pictureOf(r)
	samePicture(r.T, "renamed", after.bare(), before.renamed(names).bare())
	same(r.T, "rooms", after.Rooms, before.Rooms)
	sameList(r.T, "arguments", a, givenA)
	sameList(r.T, "arguments", b, givenB)
	// What was noted stays so, in its order; what is noted now names something young.
	sameList(r.T, "noted", r.noted()[:len(noted)], noted)
	for _, o := range r.noted()[len(noted):] {
		young := slices.ContainsFunc(r.look(o).Oops, func(v api.Oop) bool {
			return r.m.Heap().Is(v) && r.space(v) < api.Old
		})
		same(r.T, "names something young", young, true)
	}
}

// One pair: of objects in whatever spaces, named from wherever there is, also by one another.
func TestBecomeOfOnePair(t *testing.T) {
	for _, one := range []api.Space{api.Eden, api.Past, api.Old, api.Pins} {
		for _, other := range []api.Space{api.Eden, api.Past, api.Old, api.Pins} {
			r := begin(t, api.Sizes{Eden: 256, Survivor: 256, Bound: 1024, Pins: 128, Tenure: 2})
			spaces := []api.Space{one, other}
			r.push(r.of(api.FormatPointers, 9, 0, 0), r.of(api.FormatPointers, 9, 0, 0))
			r.everywhere(r.root(0))
			r.everywhere(r.root(1))
			for range 3 {
				r.scavenge()
			}
			// Young ones take the places of those that are old now.
			young := func(sp api.Space) {
				for i := range spaces {
					if spaces[i] == sp {
						r.becomes([]api.Oop{r.of(api.FormatPointers, 9, 0, 0)}, []api.Oop{r.root(i)})
					}
				}
			}
			young(api.Past)
			r.scavenge()
			young(api.Eden)
			for i, sp := range spaces {
				if sp == api.Pins {
					r.pins(r.root(i))
				}
				same(t, "space", r.space(r.root(i)), sp)
			}
			a, b := r.root(0), r.root(1)
			r.succeeds(r.m.SetSlot(a, 1, b))
			r.succeeds(r.m.SetSlot(a, 2, a))
			r.succeeds(r.m.SetSlot(b, 1, a))
			r.succeeds(r.m.SetSlot(b, 2, b))
			hashA, hashB := r.hash(a), r.hash(b)
			r.becomes([]api.Oop{a}, []api.Oop{b})
			same(t, "root", r.root(0), b)
			same(t, "root", r.root(1), a)
			same(t, "hash", r.hash(a), hashA)
			same(t, "hash", r.hash(b), hashB)
			sameList(t, "oops", r.look(a).Oops, []api.Oop{9, a, b})
			sameList(t, "oops", r.look(b).Oops, []api.Oop{9, b, a})
			// Twice is as if nothing had been.
			r.becomes([]api.Oop{b}, []api.Oop{a})
			sameList(t, "oops", r.look(a).Oops, []api.Oop{9, b, a})
			r.scavenge()
			r.collect()
			same(t, "hash", r.hash(r.root(0)), hashA)
			same(t, "hash", r.hash(r.root(1)), hashB)
		}
	}
}

// Objects of different formats and sizes: each of them stays what it is.
func TestBecomeOfDifferentObjects(t *testing.T) {
	r := begin(t, api.Sizes{Eden: 128, Survivor: 64, Bound: 4096, Pins: 100, Tenure: 1})
	r.samples()
	for i := 0; i < r.m.Depth(); i += 5 {
		r.m.Pin(r.root(i))
	}
	for i := 1; i < r.m.Depth(); i++ {
		a, b := r.root(i-1), r.root(i)
		r.becomes([]api.Oop{a}, []api.Oop{b})
		same(t, "root", r.root(i-1), b)
		same(t, "root", r.root(i), a)
	}
}

// Several pairs at once: no object changes its name twice.
func TestBecomeOfSeveralPairs(t *testing.T) {
	r := begin(t, wide())
	var l []api.Oop
	for i := range 8 {
		l = append(l, r.of(api.FormatPointers, append(slices.Clone(l), 9)...))
		r.push(l[i])
	}
	r.succeeds(r.m.SetSlot(l[0], 0, l[7]))
	r.becomes([]api.Oop{l[0], l[3], l[6]}, []api.Oop{l[1], l[2], l[4]})
	for i, want := range []int{1, 0, 3, 2, 6, 5, 4, 7} {
		same(t, "root", r.root(i), l[want])
	}
	sameList(t, "oops", r.look(l[5]).Oops, []api.Oop{l[1], l[0], l[3], l[2], l[6], 9})
	// The order of the pairs, and which side is which, is of no account.
	r.becomes([]api.Oop{l[4], l[1], l[2]}, []api.Oop{l[6], l[0], l[3]})
	for i := range 8 {
		same(t, "root", r.root(i), l[i])
	}
}

func TestBecomeOfNone(t *testing.T) {
	r := begin(t, small())
	r.push(r.of(api.FormatPointers, 9))
	before := pictureOf(r)
	r.succeeds(r.m.Become(nil, nil))
	r.succeeds(r.m.Become([]api.Oop{}, nil))
	r.succeeds(r.m.Become(nil, make([]api.Oop, 0, 3)))
	samePicture(t, "after nothing", pictureOf(r), before)
}

// Different lengths, what is no object, what occurs twice: all of it is refused, and nothing changes.
func TestBecomeOfWhatMayNotBe(t *testing.T) {
	r := begin(t, wide())
	a, b, c, d := r.words(2), r.words(3), r.words(4), r.words(5)
	gone := r.words(6)
	for _, o := range []api.Oop{a, b, c, d} {
		r.push(o)
	}
	r.push(r.of(api.FormatPointers, a, b, c, d))
	r.collect() // eden keeps its places, but what nobody names is gone
	same(t, "still there", r.root(0), a)
	before := pictureOf(r)
	refused := func(one, other []api.Oop) {
		t.Helper()
		r.fails(r.m.Become(one, other), api.ErrMemoryPairs)
		r.fails(r.m.Become(other, one), api.ErrMemoryPairs)
	}
	type list = []api.Oop
	refused(list{a}, nil)
	refused(list{a, b}, list{c})
	refused(list{a, b, c, d}, list{a, b, c})
	refused(list{a}, list{b, c})
	// No object at the end of the shorter list, where one reads beyond its length.
	refused(list{a}[:1:1], append(list{b}, c))
	refused(list{a}, list{a})
	refused(list{a, b}, list{c, b})
	refused(list{a, b}, list{b, a})
	refused(list{a, b}, list{b, c})
	refused(list{a, a}, list{b, c})
	refused(list{a, b, a}, list{c, d, gone})
	refused(list{a, c}, list{b, a})
	refused(list{a, a}, list{b, b})
	refused(list{a, c, d}, list{b, d, c})
	for _, bad := range append(list{0, 1, 9, 2, 778, gone, a + 8}, badWords...) {
		refused(list{a}, list{bad})
		refused(list{bad}, list{bad})
		refused(list{a, c}, list{b, bad})
		refused(list{bad, c}, list{b, d})
	}
	samePicture(t, "after what failed", pictureOf(r), before)
}

// An old or pinned object that names a young one behind it is noted; what was noted stays so, also where it names none any more.
func TestNotesBehindBecome(t *testing.T) {
	r := begin(t, wide())
	old, other := r.old(api.FormatPointers, 9), r.old(api.FormatPointers, 9)
	namer := r.old(api.FormatPointers, old, 9)
	method := r.old(api.FormatWeak, 9, old)
	pinned := r.pins(r.of(api.FormatEphemeron, 9, old))
	none := r.old(api.FormatPointers, other)
	garbage := r.of(api.FormatPointers, old)
	young := r.words(3)
	sameList(t, "noted", r.noted(), nil)
	r.becomes([]api.Oop{old}, []api.Oop{young})
	sameList(t, "noted", r.noted(), []api.Oop{namer, method, pinned})
	same(t, "named by what nobody names", r.slot(garbage, 0), young)

	// Back again: they name none any more.
	r.becomes([]api.Oop{old}, []api.Oop{young})
	sameList(t, "noted", r.noted(), []api.Oop{namer, method, pinned})
	// Another one comes behind them, though it lies ahead.
	r.becomes([]api.Oop{other, old}, []api.Oop{young, r.words(2)})
	sameList(t, "noted", r.noted(), []api.Oop{namer, method, pinned, none})
	r.push(none)
	r.scavenge()
	same(t, "kept", 2+r.head(r.slot(none, 0)).Slots, 3)
	sameList(t, "noted", r.noted(), []api.Oop{namer, method, pinned, none})
}

// A young object that names what became young for an old one is found by a scavenge, and a pinned one stays pinned under its other name.
func TestBecomeAndPins(t *testing.T) {
	r := begin(t, small())
	a, b := r.made(r.m.AllocText(5, "a")), r.made(r.m.AllocText(6, "b"))
	r.push(a, b)
	p := r.pins(a)
	r.becomes([]api.Oop{p}, []api.Oop{b})
	same(t, "root", r.root(0), b)
	same(t, "root", r.root(1), p)
	same(t, "pinned", r.m.Pinned(p), true)
	same(t, "pinned", r.m.Pinned(b), false)
	same(t, "text", r.text(r.root(0)), "b")
	same(t, "text", r.text(r.root(1)), "a")
	r.scavenge()
	r.collect()
	same(t, "root", r.root(1), p)
	same(t, "text", r.text(r.root(0)), "b")
}
