package memory_test

import (
	"reflect"
	"slices"
	"strings"
	"testing"

	"palaver/api"
	"palaver/memory"
)

// trial is a memory with its sizes, which is looked at behind every call.
type trial struct {
	*testing.T
	m *memory.Memory
	z api.Sizes
}

// With these, eden begins at 16, the halves at 528 and 656, old at 784 and pins at 2064.
func small() api.Sizes {
	return api.Sizes{Eden: 64, Survivor: 16, Bound: 64, Pins: 8, Tenure: 1}
}

func wide() api.Sizes {
	return api.Sizes{Eden: 256, Survivor: 128, Bound: 1024, Pins: 64, Tenure: 1}
}

const edenAt, oldAt, pinsAt = 16, 784, 2064

var allSpaces = []api.Space{api.Eden, api.Past, api.Future, api.Old, api.Pins}

// What is no object of a memory, and may not be stored there, either.
var badWords = []api.Oop{3, 4, 7, 8, 24, 1 << 30, 1 << 31, 1<<31 - 8, 8*2097152 + 2, 1<<64 - 1}

func begin(t *testing.T, z api.Sizes) *trial {
	t.Helper()
	m, e := memory.New(z)
	if m == nil || e != api.OK {
		t.Fatalf("New(%+v): %v %d", z, m, e)
	}
	return &trial{t, m, z}
}

// sound asks what holds behind every call.
func (r *trial) sound() {
	r.Helper()
	if e := r.m.Check(); e != api.OK {
		r.Fatalf("not sound: %d", e)
	}
	used := 0
	for _, sp := range allSpaces {
		used += r.m.Heap().Used(sp)
	}
	if used > r.m.Count() || r.m.Count() > r.z.Bound {
		r.Fatalf("used %d, count %d, bound %d", used, r.m.Count(), r.z.Bound)
	}
}

// succeeds takes what a call returned that has to succeed.
func (r *trial) succeeds(e api.Errno) {
	r.Helper()
	if e != api.OK {
		r.Fatalf("error %d", e)
	}
	r.sound()
}

// reads takes what a call returned that changes nothing.
func (r *trial) reads(e api.Errno) {
	r.Helper()
	if e != api.OK {
		r.Fatalf("error %d", e)
	}
}

// fails takes what a call returned that has to fail.
func (r *trial) fails(got, want api.Errno) {
	r.Helper()
	if got != want {
		r.Errorf("error %d, not %d", got, want)
	}
	r.sound()
}

// made takes what a call returned that has to make, or to give, an object.
func (r *trial) made(o api.Oop, e api.Errno) api.Oop {
	r.Helper()
	r.succeeds(e)
	if !r.m.Heap().Is(o) {
		r.Fatalf("%d is no object", o)
	}
	return o
}

// refuses returns what takes the results of a call that has to fail.
func (r *trial) refuses(want api.Errno) func(api.Oop, api.Errno) {
	return func(o api.Oop, e api.Errno) {
		r.Helper()
		r.fails(e, want)
		same(r.T, "beside an error", o, 0)
	}
}

func (r *trial) alloc(f api.Format, n int) api.Oop {
	r.Helper()
	return r.made(r.m.Alloc(5, f, n))
}

// of makes an object that has those oops.
func (r *trial) of(f api.Format, oops ...api.Oop) api.Oop {
	r.Helper()
	o := r.alloc(f, len(oops))
	r.fill(o, oops...)
	return o
}

// method makes one with those literals.
func (r *trial) method(text string, literals ...api.Oop) api.Oop {
	r.Helper()
	o := r.made(r.m.AllocMethod(7, len(literals), len(text)))
	r.fill(o, append([]api.Oop{r.slot(o, 0)}, literals...)...)
	r.succeeds(r.m.SetText(o, 0, text))
	return o
}

// fill lays oops into an object, but not the one there that counts literals.
func (r *trial) fill(o api.Oop, oops ...api.Oop) {
	r.Helper()
	for i, v := range oops {
		if r.slotOr0(o, i) != v {
			r.succeeds(r.m.SetSlot(o, i, v))
		}
	}
}

// words makes an object of so many words, header and all.
func (r *trial) words(size int) api.Oop {
	r.Helper()
	return r.alloc(api.FormatWords, size-2)
}

// waste makes objects that nobody names, so that the count becomes that number.
func (r *trial) waste(count int) {
	r.Helper()
	for r.m.Count() < count {
		n := min(count-r.m.Count(), 7)
		if left := count - r.m.Count() - n; left == 1 {
			n--
		}
		r.words(n)
	}
	same(r.T, "count", r.m.Count(), count)
}

// leave makes objects that nobody names, so that eden has room for exactly that many words.
func (r *trial) leave(room int) {
	r.Helper()
	r.waste(r.m.Count() + r.m.Heap().Room(api.Eden) - room)
	same(r.T, "room", r.m.Heap().Room(api.Eden), room)
}

// push lays oops on the stack of roots; the place of the first one.
func (r *trial) push(l ...api.Oop) int {
	r.Helper()
	first := r.m.Depth()
	for i, v := range l {
		at, e := r.m.Push(v)
		r.succeeds(e)
		same(r.T, "place", at, first+i)
	}
	return first
}

// keep makes objects of so many words, each of them named by the stack of roots ahead of the next one.
func (r *trial) keep(sizes ...int) {
	r.Helper()
	for _, size := range sizes {
		r.push(r.words(size))
	}
}

func (r *trial) root(i int) api.Oop {
	r.Helper()
	v, e := r.m.Root(i)
	r.reads(e)
	return v
}

func (r *trial) slotOr0(o api.Oop, i int) api.Oop {
	v, _ := r.m.Slot(o, i)
	return v
}

func (r *trial) slot(o api.Oop, i int) api.Oop {
	r.Helper()
	v, e := r.m.Slot(o, i)
	r.reads(e)
	return v
}

func (r *trial) text(o api.Oop) string {
	r.Helper()
	s, e := r.m.Text(o)
	r.reads(e)
	return s
}

func (r *trial) hash(o api.Oop) int {
	r.Helper()
	n, e := r.m.Hash(o)
	r.succeeds(e)
	return n
}

func (r *trial) space(o api.Oop) api.Space {
	return r.m.Heap().Space(o)
}

func (r *trial) head(o api.Oop) api.Header {
	r.Helper()
	x, e := r.m.Heap().Head(o)
	r.reads(e)
	return x
}

func (r *trial) collect() api.Report {
	r.Helper()
	report := r.m.Collect()
	r.sound()
	used := 0
	for _, sp := range allSpaces {
		used += r.m.Heap().Used(sp)
	}
	same(r.T, "count behind a collection", r.m.Count(), used)
	return report
}

func (r *trial) scavenge() api.Report {
	r.Helper()
	report, e := r.m.Scavenge()
	r.succeeds(e)
	return report
}

// old makes an object in old: a great one that is named by a root till it is there, or a small one that was tenured.
func (r *trial) old(f api.Format, oops ...api.Oop) api.Oop {
	r.Helper()
	at := r.push(r.of(f, oops...))
	for r.space(r.root(at)) != api.Old {
		r.scavenge()
	}
	o, e := r.m.Pop()
	r.succeeds(e)
	return o
}

func (r *trial) queue() []api.Oop {
	l := slices.Collect(r.m.Heap().Roots())
	return l[len(l)-r.m.Heap().Queued():]
}

func (r *trial) noted() []api.Oop {
	return slices.Collect(r.m.Heap().Noted())
}

// seen is an object as the memory shows it.
type seen struct {
	Space api.Space
	Head  api.Header
	Oops  []api.Oop
	Words []uint64
	Bytes string
}

func (r *trial) look(o api.Oop) seen {
	r.Helper()
	s := seen{Space: r.space(o), Head: r.head(o)}
	n, _ := r.m.Oops(o)
	for i := range n {
		s.Oops = append(s.Oops, r.slot(o, i))
	}
	for i := 0; ; i++ {
		w, e := r.m.Word(o, i)
		if e != api.OK {
			break
		}
		s.Words = append(s.Words, w)
	}
	b := strings.Builder{}
	n, _ = r.m.Bytes(o)
	for i := range n {
		c, _ := r.m.Byte(o, i)
		b.WriteByte(c)
	}
	s.Bytes = b.String()
	return s
}

// picture is all that a memory shows.
type picture struct {
	Objects map[api.Oop]seen
	Rooms   [6]int
	Useds   [6]int
	Noted   []api.Oop
	Roots   []api.Oop
	Depth   int
	Given   int
	Count   int
}

func pictureOf(r *trial) picture {
	r.Helper()
	h := r.m.Heap()
	p := picture{Objects: map[api.Oop]seen{}, Noted: r.noted(), Roots: slices.Collect(h.Roots()), Depth: r.m.Depth(), Given: h.Given(), Count: r.m.Count()}
	for _, sp := range allSpaces {
		p.Rooms[sp], p.Useds[sp] = h.Room(sp), h.Used(sp)
		for o := range h.Walk(sp) {
			p.Objects[o] = r.look(o)
		}
	}
	return p
}

func samePicture(t *testing.T, what string, got, want picture) {
	t.Helper()
	a, b := reflect.ValueOf(got), reflect.ValueOf(want)
	for i := range a.NumField() {
		if x, y := a.Field(i).Interface(), b.Field(i).Interface(); !reflect.DeepEqual(x, y) {
			t.Errorf("%s: %s:\n%+v\nnot\n%+v", what, a.Type().Field(i).Name, x, y)
		}
	}
}

func same[T comparable](t *testing.T, what string, got, want T) {
	t.Helper()
	if got != want {
		t.Errorf("%s: %v, not %v", what, got, want)
	}
}

func sameList[T comparable](t *testing.T, what string, got, want []T) {
	t.Helper()
	if !slices.Equal(got, want) {
		t.Errorf("%s: %v, not %v", what, got, want)
	}
}

// sameReport holds reports against each other: they can't be compared as they are.
func sameReport(t *testing.T, got, want api.Report) {
	t.Helper()
	sameList(t, "fired", got.Fired, want.Fired)
	got.Fired, want.Fired = nil, nil
	if !reflect.DeepEqual(got, want) {
		t.Errorf("report: %+v, not %+v", got, want)
	}
}
