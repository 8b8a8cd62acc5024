package scavenge_test

import (
	"reflect"
	"slices"
	"strconv"
	"strings"
	"testing"

	"palaver/api"
	"palaver/heap"
	"palaver/scavenge"
)

// trial is a heap with its sizes, and how often it was flipped: so a test knows which half is past.
type trial struct {
	*testing.T
	h     *heap.Heap
	z     api.Sizes
	flips int
}

// With these, eden begins at 16, the halves at 528 and 656, old at 784 and pins at 2064.
func small() api.Sizes {
	return api.Sizes{Eden: 64, Survivor: 16, Bound: 64, Pins: 16}
}

func wide() api.Sizes {
	return api.Sizes{Eden: 256, Survivor: 128, Bound: 256, Pins: 64}
}

var allSpaces = []api.Space{api.Eden, api.Past, api.Future, api.Old, api.Pins}

func begin(t *testing.T, z api.Sizes) *trial {
	t.Helper()
	h, e := heap.New(z)
	if h == nil || e != api.OK {
		t.Fatalf("New(%+v): %v %d", z, h, e)
	}
	return &trial{T: t, h: h, z: z}
}

func (r *trial) succeeds(e api.Errno) {
	r.Helper()
	if e != api.OK {
		r.Fatalf("error %d", e)
	}
}

// of makes an object. Its class is a letter, by which it is known wherever it goes.
func (r *trial) of(sp api.Space, name byte, f api.Format, n int) api.Oop {
	r.Helper()
	o, e := r.h.Alloc(sp, int(name), f, n)
	r.succeeds(e)
	return o
}

func (r *trial) object(sp api.Space, name byte, oops ...api.Oop) api.Oop {
	r.Helper()
	return r.formed(sp, name, api.FormatPointers, oops...)
}

func (r *trial) formed(sp api.Space, name byte, f api.Format, oops ...api.Oop) api.Oop {
	r.Helper()
	o := r.of(sp, name, f, len(oops))
	for i, v := range oops {
		r.set(o, i, v)
	}
	return o
}

func (r *trial) method(sp api.Space, name byte, bytes string, literals ...api.Oop) api.Oop {
	r.Helper()
	o, e := r.h.AllocMethod(sp, int(name), len(literals), len(bytes))
	r.succeeds(e)
	for i, v := range literals {
		r.set(o, 1+i, v)
	}
	for i := range len(bytes) {
		r.succeeds(r.h.SetByte(o, i, bytes[i]))
	}
	return o
}

func (r *trial) set(o api.Oop, i int, v api.Oop) {
	r.Helper()
	r.succeeds(r.h.SetSlot(o, i, v))
}

// lay lays whatever word into an oop of an object, without a check, and without that anything is noted.
func (r *trial) lay(o api.Oop, i int, v api.Oop) {
	r.Helper()
	handle := r.object(api.Old, '~')
	r.set(o, i, handle)
	r.succeeds(r.h.Replace(o, replacing(handle, v)))
	r.succeeds(r.h.Free(handle))
}

// push lays whatever words on the stack of roots.
func (r *trial) push(l ...api.Oop) {
	r.Helper()
	for _, v := range l {
		handle := r.object(api.Old, '~')
		_, e := r.h.Push(handle)
		r.succeeds(e)
		r.succeeds(r.h.Replace(0, replacing(handle, v)))
		r.succeeds(r.h.Free(handle))
	}
}

func replacing(one, other api.Oop) func(api.Oop) api.Oop {
	return func(v api.Oop) api.Oop {
		if v == one {
			return other
		}
		return v
	}
}

func (r *trial) flip() {
	r.h.Flip()
	r.flips++
}

// aged copies an object into the future space, with an age. Behind the next flip it is in past.
func (r *trial) aged(o api.Oop, age int) api.Oop {
	r.Helper()
	c, e := r.h.Copy(o, api.Future, age)
	r.succeeds(e)
	return c
}

// fill leaves so many words of a space.
func (r *trial) fill(sp api.Space, left int) {
	r.Helper()
	r.of(sp, '-', api.FormatWords, r.h.Room(sp)-left-2)
	if r.h.Room(sp) != left {
		r.Fatalf("room %d, not %d", r.h.Room(sp), left)
	}
}

// at is where the object of that name is; 0: nowhere.
func (r *trial) at(name byte) api.Oop {
	r.Helper()
	var found []api.Oop
	for _, sp := range allSpaces {
		for o := range r.h.Walk(sp) {
			if r.name(o) == string(rune(name)) {
				found = append(found, o)
			}
		}
	}
	if len(found) > 1 {
		r.Fatalf("%c is at %v", name, found)
	}
	return append(found, 0)[0]
}

func (r *trial) head(o api.Oop) api.Header {
	r.Helper()
	x, e := r.h.Head(o)
	r.succeeds(e)
	return x
}

// name is the letter of an object, `.` for 0, and `#` for all other words.
func (r *trial) name(v api.Oop) string {
	switch {
	case v == 0:
		return "."
	case !r.h.Is(v):
		return "#"
	}
	return string(rune(r.head(v).Class))
}

func (r *trial) names(l []api.Oop) string {
	b := strings.Builder{}
	for _, v := range l {
		b.WriteString(r.name(v))
	}
	return b.String()
}

// lies asks for the objects of a space, with their ages: `A1 B1`.
func (r *trial) lies(sp api.Space, want string) {
	r.Helper()
	var l []string
	for o := range r.h.Walk(sp) {
		l = append(l, r.name(o)+strconv.Itoa(r.head(o).Age))
	}
	same(r.T, "space "+strconv.Itoa(int(sp)), strings.Join(l, " "), want)
}

// refers asks for the names of an object's oops.
func (r *trial) refers(name byte, want string) {
	r.Helper()
	same(r.T, "oops of "+string(rune(name)), r.names(oopsOf(r.T, r.h, r.at(name))), want)
}

// notes asks for the names of what is noted.
func (r *trial) notes(want string) {
	r.Helper()
	same(r.T, "noted", r.names(slices.Collect(r.h.Noted())), want)
}

// roots asks for the names of the roots that are not 0.
func (r *trial) roots(want string) {
	r.Helper()
	same(r.T, "roots", strings.ReplaceAll(r.names(slices.Collect(r.h.Roots())), ".", ""), want)
}

// run holds all that the heap shows behind a run against what the model makes of what it showed ahead.
func (r *trial) run(tenure int) (api.Report, api.Errno) {
	r.Helper()
	want, report, err := pictureOf(r).after(tenure)
	got, e := scavenge.Run(r.h, tenure)
	if e == api.OK {
		r.flips++
	}
	if !reflect.DeepEqual(got, report) || e != err {
		r.Errorf("Run with tenure %d: %+v %d, not %+v %d", tenure, got, e, report, err)
	}
	samePicture(r.T, pictureOf(r), want)
	return got, e
}

// counts is a run that succeeds, and what its report tells.
func (r *trial) counts(tenure, kept, tenured, freed int) {
	r.Helper()
	got, e := r.run(tenure)
	want := api.Report{Kept: kept, Tenured: tenured, Freed: freed}
	if !reflect.DeepEqual(got, want) || e != api.OK {
		r.Errorf("Run with tenure %d: %+v %d, not %+v", tenure, got, e, want)
	}
}

// fails is a run that changes nothing.
func (r *trial) fails(tenure int, want api.Errno) {
	r.Helper()
	before := pictureOf(r)
	got, e := scavenge.Run(r.h, tenure)
	if !reflect.DeepEqual(got, api.Report{}) || e != want {
		r.Errorf("Run with tenure %d: %+v %d, not %d", tenure, got, e, want)
	}
	samePicture(r.T, pictureOf(r), before)
}

func same[T comparable](t *testing.T, what string, got, want T) {
	t.Helper()
	if got != want {
		t.Errorf("%s: %v, not %v", what, got, want)
	}
}

func oopsOf(t *testing.T, h *heap.Heap, o api.Oop) []api.Oop {
	t.Helper()
	n, e := h.Oops(o)
	if e != api.OK {
		t.Fatalf("Oops(%d): %d", o, e)
	}
	l := make([]api.Oop, n)
	for i := range l {
		l[i], _ = h.Slot(o, i)
	}
	return l
}

// restOf is what an object has beside its oops: bytes or words.
func restOf(h *heap.Heap, o api.Oop) []uint64 {
	l := []uint64{}
	n, _ := h.Bytes(o)
	for i := range n {
		b, _ := h.Byte(o, i)
		l = append(l, uint64(b))
	}
	for i := 0; ; i++ {
		w, e := h.Word(o, i)
		if e != api.OK {
			return l
		}
		l = append(l, w)
	}
}
