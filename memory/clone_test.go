package memory_test

import (
	"math"
	"strings"
	"testing"

	"palaver/api"
)

// cloned asks that a clone is like what it was made from, as that is behind the call: but it has no hash and no age, and lies where new objects do.
func (r *trial) cloned(clone, from api.Oop) {
	r.Helper()
	got, want := r.look(clone), r.look(from)
	want.Head.Hash, want.Head.Age = 0, 0
	want.Head.Noted = got.Head.Noted
	want.Space = api.Eden
	if 2+want.Head.Slots > r.z.Eden/2 {
		want.Space = api.Old
	}
	same(r.T, "another object", clone != from, true)
	same(r.T, "space", got.Space, want.Space)
	same(r.T, "header", got.Head, want.Head)
	same(r.T, "bytes", got.Bytes, want.Bytes)
	sameList(r.T, "oops", got.Oops, want.Oops)
	sameList(r.T, "words", got.Words, want.Words)
}

// samples fills the stack of roots with objects of every format, small and great, with something in them.
func (r *trial) samples() {
	r.Helper()
	v := r.push(r.made(r.m.AllocText(9, "something")))
	for _, n := range []int{1, 4, r.z.Eden / 2} {
		for _, f := range []api.Format{api.FormatPointers, api.FormatWeak, api.FormatEphemeron} {
			o := r.root(r.push(r.alloc(f, n)))
			r.succeeds(r.m.SetSlot(o, n-1, r.root(v)))
			if n > 1 {
				r.succeeds(r.m.SetSlot(o, n/2, 778))
				r.succeeds(r.m.SetSlot(o, 0, o))
			}
		}
		w := r.root(r.push(r.alloc(api.FormatWords, n)))
		r.succeeds(r.m.SetWord(w, 0, math.MaxUint64))
		r.succeeds(r.m.SetWord(w, n-1, uint64(w)))
		m := r.root(r.push(r.made(r.m.AllocMethod(11, n, 5*n))))
		r.succeeds(r.m.SetSlot(m, n, r.root(v)))
		r.succeeds(r.m.SetText(m, 0, strings.Repeat("code!", n)))
		r.push(r.made(r.m.AllocText(4095, strings.Repeat("012345678", n))))
	}
	r.push(r.alloc(api.FormatPointers, 0), r.alloc(api.FormatWeak, 0), r.alloc(api.FormatWords, 0), r.made(r.m.AllocText(5, "")), r.made(r.m.AllocMethod(5, 0, 0)))
}

// Objects of every format, wherever they lie; what they were made from stays as it is.
func TestClone(t *testing.T) {
	for _, hashed := range []bool{false, true} {
		r := begin(t, api.Sizes{Eden: 128, Survivor: 64, Bound: 4096, Pins: 300, Tenure: 2})
		r.samples()
		for round := range 6 {
			for i := range r.m.Depth() {
				if hashed {
					r.hash(r.root(i))
				}
				if round == 5 {
					r.m.Pin(r.root(i))
				}
				before, count, given := r.look(r.root(i)), r.m.Count(), r.m.Heap().Given()
				o := r.made(r.m.Clone(r.root(i)))
				same(t, "count", r.m.Count()-count == 2+before.Head.Slots || r.m.Count() < count, true)
				same(t, "given", r.m.Heap().Given(), given)
				r.cloned(o, r.root(i))
				same(t, "pinned", r.m.Pinned(o), false)
				if hashed {
					same(t, "hash", r.hash(o) == r.hash(r.root(i)), false)
				}
				after := r.look(r.root(i))
				same(t, "bytes", after.Bytes, before.Bytes)
				sameList(t, "words", after.Words, before.Words)
				same(t, "oops", len(after.Oops), len(before.Oops))
			}
			r.scavenge()
		}
	}
}

// What is laid into a clone is not in the other one, and the other way round.
func TestClonesAreIndependent(t *testing.T) {
	r := begin(t, wide())
	a := r.of(api.FormatPointers, 9, 17)
	r.push(a, r.made(r.m.Clone(a)))
	r.succeeds(r.m.SetSlot(r.root(1), 0, 25))
	r.succeeds(r.m.SetSlot(r.root(0), 1, 33))
	r.succeeds(r.m.SetClass(r.root(1), 6))
	sameList(t, "oops", r.look(r.root(0)).Oops, []api.Oop{9, 33})
	sameList(t, "oops", r.look(r.root(1)).Oops, []api.Oop{25, 17})
	same(t, "class", r.head(r.root(0)).Class, 5)
	b := r.made(r.m.AllocText(5, "abc"))
	c := r.made(r.m.Clone(b))
	r.succeeds(r.m.SetText(b, 0, "x"))
	r.succeeds(r.m.SetText(c, 2, "z"))
	same(t, "text", r.text(b), "xbc")
	same(t, "text", r.text(c), "abz")
	// One that names itself is named by its clone.
	r.succeeds(r.m.SetSlot(a, 0, a))
	sameList(t, "oops", r.look(r.made(r.m.Clone(a))).Oops, []api.Oop{a, 33})
}

// Nothing but the call names it: it is there behind a scavenge, and behind a full collection, of which it is a root.
func TestCloneOfWhatNothingElseNames(t *testing.T) {
	for _, f := range []api.Format{api.FormatPointers, api.FormatWords, api.FormatBytes, api.FormatMethod} {
		sample := func(r *trial) api.Oop {
			switch f {
			case api.FormatPointers:
				return r.of(f, r.of(f, 17, 25), 9, 33)
			case api.FormatWords:
				o := r.words(7)
				r.succeeds(r.m.SetWord(o, 4, 1<<63))
				return o
			case api.FormatBytes:
				return r.made(r.m.AllocText(5, strings.Repeat("bytes", 7)))
			}
			return r.method("some code", 9, r.of(api.FormatPointers, 17, 25))
		}
		check := func(r *trial, clone api.Oop, want seen) {
			t.Helper()
			got := r.look(clone)
			same(t, "slots", got.Head.Slots, want.Head.Slots)
			same(t, "format", got.Head.Format, f)
			same(t, "bytes", got.Bytes, want.Bytes)
			sameList(t, "words", got.Words, want.Words)
			same(t, "oops", len(got.Oops), len(want.Oops))
			for i, v := range got.Oops {
				if r.m.Heap().Is(v) {
					sameList(t, "an oop's oops", r.look(v).Oops, []api.Oop{17, 25})
				} else {
					same(t, "oop", v, want.Oops[i])
				}
			}
			same(t, "queued", r.m.Heap().Queued(), 0)
		}
		// By a scavenge, with each place in which it may be behind it.
		for tenure := range 3 {
			r := begin(t, api.Sizes{Eden: 64, Survivor: 32, Bound: 200, Pins: 16, Tenure: tenure})
			o := sample(r)
			want := r.look(o)
			r.leave(want.Head.Slots + 1)
			count := r.m.Count()
			clone := r.made(r.m.Clone(o))
			check(r, clone, want)
			same(t, "scavenged", clone, edenAt)
			same(t, "count", r.m.Count(), count+2+want.Head.Slots)
		}
		// By a full collection, and by both.
		for _, eden := range []int{128, 64} {
			r := begin(t, api.Sizes{Eden: eden, Survivor: 32, Bound: 64, Pins: 16, Tenure: 1})
			o := sample(r)
			live := r.m.Count()
			want := r.look(o)
			r.waste(64)
			clone := r.made(r.m.Clone(o))
			check(r, clone, want)
			same(t, "scavenged", clone == edenAt, eden == 64)
			same(t, "count", r.m.Count(), live+2+want.Head.Slots)
			r.collect()
			same(t, "no root any more", r.m.Count(), 0)
		}
	}
}

// It lives as long as the call: with it there is no room for its clone. What is in the queue stays in order.
func TestMemoryFullForTheSakeOfACloned(t *testing.T) {
	r := begin(t, api.Sizes{Eden: 64, Survivor: 32, Bound: 100, Pins: 16, Tenure: 1})
	var fired []api.Oop
	for range 3 {
		r.push(r.of(api.FormatEphemeron, r.words(2)))
	}
	r.collect()
	for r.m.Depth() > 0 {
		r.m.Pop()
	}
	fired = r.queue()
	same(t, "fired", len(fired), 3)
	same(t, "count", r.m.Count(), 15)
	r.keep(40)
	for size, want := range map[int]api.Errno{22: api.OK, 23: api.ErrMemoryFull} {
		r.collect()
		same(t, "count", r.m.Count(), 55)
		o := r.words(size)
		clone, e := r.m.Clone(o)
		r.fails(e, want)
		same(t, "object", clone != 0, want == api.OK)
		sameList(t, "queue", r.classesOf(r.queue()), []int{5, 5, 5})
		sameList(t, "queue", hashes(r, r.queue()), []int{1, 2, 3})
		if want != api.OK {
			same(t, "count", r.m.Count(), 78)
			same(t, "still there", r.head(o).Slots, 21)
			before := pictureOf(r)
			r.refuses(api.ErrMemoryFull)(r.m.Clone(o))
			samePicture(t, "again", pictureOf(r), before)
		}
	}
}

func (r *trial) classesOf(l []api.Oop) []int {
	r.Helper()
	var classes []int
	for _, o := range l {
		class, e := r.m.ClassOf(o)
		r.succeeds(e)
		classes = append(classes, class)
	}
	return classes
}

func hashes(r *trial, l []api.Oop) []int {
	r.Helper()
	var n []int
	for _, o := range l {
		n = append(n, r.hash(o))
	}
	return n
}

// A weak object is cloned as it is behind the full collection: what only it names is cleared. Its own oops keep nothing, though the call keeps itself.
func TestCloneOfAWeakObjectMeanwhile(t *testing.T) {
	for _, rooted := range []bool{false, true} {
		r := begin(t, api.Sizes{Eden: 64, Survivor: 32, Bound: 64, Tenure: 1})
		r.succeeds(r.m.SetSpecial(0, 41))
		y := r.words(4)
		r.push(y)
		w := r.of(api.FormatWeak, r.words(3), y, 9, 0)
		r.succeeds(r.m.SetSlot(w, 3, w))
		if rooted {
			r.push(w)
		}
		r.waste(64)
		clone := r.made(r.m.Clone(w))
		y = r.root(0)
		got := r.look(clone)
		same(t, "format", got.Head.Format, api.FormatWeak)
		same(t, "itself", r.look(got.Oops[3]).Head.Format, api.FormatWeak)
		same(t, "another one", got.Oops[3] == clone, false)
		sameList(t, "oops", got.Oops, []api.Oop{41, y, 9, got.Oops[3]})
		sameList(t, "the weak one's own", r.look(got.Oops[3]).Oops, got.Oops)
		same(t, "count", r.m.Count(), 4+6+6)
	}
}

// An ephemeron that fires meanwhile has pointers then, and so has its clone; it is in the queue, for it lived in the collection. One whose key lives stays one.
func TestCloneOfAnEphemeronMeanwhile(t *testing.T) {
	for _, c := range []struct {
		rooted, alive bool
		want          api.Format
	}{{false, false, api.FormatPointers}, {true, false, api.FormatPointers}, {false, true, api.FormatEphemeron}, {true, true, api.FormatEphemeron}} {
		r := begin(t, api.Sizes{Eden: 64, Survivor: 32, Bound: 64, Tenure: 1})
		k := r.words(4)
		e := r.of(api.FormatEphemeron, k, r.words(3))
		hash := r.hash(e)
		if c.alive {
			r.push(k)
		}
		if c.rooted {
			r.push(e)
		}
		r.waste(64)
		clone := r.made(r.m.Clone(e))
		got := r.look(clone)
		same(t, "format", got.Head.Format, c.want)
		same(t, "key", 2+r.head(got.Oops[0]).Slots, 4)
		same(t, "value", 2+r.head(got.Oops[1]).Slots, 3)
		same(t, "count", r.m.Count(), 4+3+4+4)
		fired := r.m.Fired()
		same(t, "fired", fired != 0, !c.alive)
		if fired != 0 {
			same(t, "hash", r.hash(fired), hash)
			same(t, "format", r.head(fired).Format, api.FormatPointers)
			sameList(t, "oops", r.look(fired).Oops, got.Oops)
		}
		same(t, "fired", r.m.Fired(), 0)
	}
}

// What is cloned is a root after all others: after the stack, and after what is in the queue already. So it fires behind what these name themselves, and ahead of what they name through others.
func TestClonedIsTheLastRoot(t *testing.T) {
	r := begin(t, api.Sizes{Eden: 256, Survivor: 64, Bound: 128, Tenure: 1})
	ephemeron := func(class int) api.Oop {
		e := r.of(api.FormatEphemeron, r.words(2))
		r.succeeds(r.m.SetClass(e, class))
		return e
	}
	q, other := ephemeron(10), ephemeron(11)
	r.push(q, other)
	r.collect()
	r.m.Pop()
	r.m.Pop()
	sameList(t, "queue", r.classesOf(r.queue()), []int{10, 11})
	r.succeeds(r.m.SetSlot(q, 0, ephemeron(20)))
	// Another ephemeron takes the place of one that has fired: it has not, and waits.
	r.becomes([]api.Oop{other}, []api.Oop{ephemeron(12)})
	r.push(ephemeron(30))
	r.succeeds(r.m.SetClassAt(4095, r.of(api.FormatPointers, ephemeron(40))))
	o := ephemeron(50)
	r.waste(126)
	r.made(r.m.Clone(o))
	sameList(t, "queue", r.classesOf(r.queue()), []int{10, 12, 30, 12, 50, 40, 20})
}

// A stack of roots without room for one more is none of its concern.
func TestCloneBesideAFullStack(t *testing.T) {
	r := begin(t, api.Sizes{Eden: 64, Survivor: 32, Bound: 64, Tenure: 1})
	o := r.made(r.m.AllocText(5, "text"))
	for r.m.Depth() < api.MaxRoots {
		r.m.Push(0)
	}
	r.waste(64)
	same(t, "text", r.text(r.made(r.m.Clone(o))), "text")
	same(t, "count", r.m.Count(), 6)
	same(t, "depth", r.m.Depth(), 4096)
}
