package compact_test

import (
	"reflect"
	"slices"
	"strings"
	"testing"

	"palaver/api"
	"palaver/compact"
	"palaver/heap"
)

// trial is a heap with its sizes, and how often it was flipped: so a test knows which half is past.
type trial struct {
	*testing.T
	h     *heap.Heap
	z     api.Sizes
	flips int
}

// With these, eden begins at 16, the halves at 528 and 656, old at 784 and pins at 2064.
func small() api.Sizes {
	return api.Sizes{Eden: 64, Survivor: 16, Bound: 64, Pins: 16}
}

func wide() api.Sizes {
	return api.Sizes{Eden: 256, Survivor: 128, Bound: 256, Pins: 64}
}

var allSpaces = []api.Space{api.Eden, api.Past, api.Future, api.Old, api.Pins}

func spaceNames() []string {
	return []string{"", "eden", "past", "future", "old", "pins"}
}

func begin(t *testing.T, z api.Sizes) *trial {
	t.Helper()
	h, e := heap.New(z)
	if h == nil || e != api.OK {
		t.Fatalf("New(%+v): %v %d", z, h, e)
	}
	return &trial{T: t, h: h, z: z}
}

func (r *trial) succeeds(e api.Errno) {
	r.Helper()
	if e != api.OK {
		r.Fatalf("error %d", e)
	}
}

// scene is a new heap with objects, and a stack of roots that names some of them.
func scene(t *testing.T, text, stack string) *trial {
	t.Helper()
	r := begin(t, wide())
	r.lay(text)
	r.push(r.all(stack)...)
	return r
}

// lay makes objects, in the order of a text, in the spaces that it names ahead of them (old, if it names none): `A:BC` is A with the oops B and C, `W?X` a weak object, `E!KV` an ephemeron, `M*L` a method with a literal. An oop `.` is 0, and `#` is 1. The class of an object is its letter, by which it is known wherever it goes.
func (r *trial) lay(text string) {
	r.Helper()
	tokens := strings.Fields(text)
	r.make(tokens, true)
	r.make(tokens, false)
	for _, token := range tokens {
		if slices.Contains(spaceNames(), token) || len(token) < 2 {
			continue
		}
		first := 0
		if token[1] == '*' {
			first = 1
		}
		for i := range len(token) - 2 {
			r.set(r.at(token[0]), first+i, r.oop(token[2+i]))
		}
	}
}

// make makes either those objects of a text that are to be in past, or the others. Those of past are made in the future space, ahead of a flip.
func (r *trial) make(tokens []string, past bool) {
	r.Helper()
	sp, made := api.Old, false
	for _, token := range tokens {
		if i := slices.Index(spaceNames(), token); i > 0 {
			sp = api.Space(i)
			continue
		}
		if past != (sp == api.Past) {
			continue
		}
		to := sp
		if past {
			to = api.Future
		}
		r.create(to, token)
		made = true
	}
	if past && made {
		r.flip()
	}
}

func (r *trial) create(sp api.Space, token string) {
	r.Helper()
	f, n := api.FormatPointers, max(0, len(token)-2)
	if n > 0 || len(token) == 2 {
		switch token[1] {
		case '?':
			f = api.FormatWeak
		case '!':
			f = api.FormatEphemeron
		case '*':
			_, e := r.h.AllocMethod(sp, int(token[0]), n, 3)
			r.succeeds(e)
			return
		}
	}
	r.of(sp, token[0], f, n)
}

// of makes an object without anything in it.
func (r *trial) of(sp api.Space, name byte, f api.Format, n int) api.Oop {
	r.Helper()
	o, e := r.h.Alloc(sp, int(name), f, n)
	r.succeeds(e)
	return o
}

// oop is what a letter stands for.
func (r *trial) oop(name byte) api.Oop {
	r.Helper()
	switch name {
	case '.':
		return 0
	case '#':
		return 9
	}
	o := r.at(name)
	if o == 0 {
		r.Fatalf("nothing is called %c", name)
	}
	return o
}

// all are the objects of those letters.
func (r *trial) all(names string) []api.Oop {
	r.Helper()
	var l []api.Oop
	for i := range len(names) {
		l = append(l, r.oop(names[i]))
	}
	return l
}

func (r *trial) set(o api.Oop, i int, v api.Oop) {
	r.Helper()
	r.succeeds(r.h.SetSlot(o, i, v))
}

// spoil lays whatever word into an oop of an object, without a check, and without that anything is noted.
func (r *trial) spoil(o api.Oop, i int, v api.Oop) {
	r.Helper()
	handle := r.of(api.Old, '~', api.FormatPointers, 0)
	r.set(o, i, handle)
	r.succeeds(r.h.Replace(o, replacing(handle, v)))
	r.succeeds(r.h.Free(handle))
}

// push lays whatever words on the stack of roots.
func (r *trial) push(l ...api.Oop) {
	r.Helper()
	for _, v := range l {
		i, e := r.h.Push(0)
		r.succeeds(e)
		r.root(func(v api.Oop) api.Errno { return r.h.SetRoot(i, v) }, v)
	}
}

// root lays whatever word into a root, by the call that writes it.
func (r *trial) root(set func(api.Oop) api.Errno, v api.Oop) {
	r.Helper()
	if r.h.Is(v) {
		r.succeeds(set(v))
		return
	}
	handle := r.of(api.Old, '~', api.FormatPointers, 0)
	r.succeeds(set(handle))
	r.succeeds(r.h.Replace(0, replacing(handle, v)))
	r.succeeds(r.h.Free(handle))
}

func replacing(one, other api.Oop) func(api.Oop) api.Oop {
	return func(v api.Oop) api.Oop {
		if v == one {
			return other
		}
		return v
	}
}

func (r *trial) flip() {
	r.h.Flip()
	r.flips++
}

// at is where the object of that name is; 0: nowhere.
func (r *trial) at(name byte) api.Oop {
	r.Helper()
	var found []api.Oop
	for _, sp := range allSpaces {
		for o := range r.h.Walk(sp) {
			if r.name(o) == string(rune(name)) {
				found = append(found, o)
			}
		}
	}
	if len(found) > 1 {
		r.Fatalf("%c is at %v", name, found)
	}
	return append(found, 0)[0]
}

func (r *trial) head(o api.Oop) api.Header {
	r.Helper()
	x, e := r.h.Head(o)
	r.succeeds(e)
	return x
}

// name is the letter of an object, `.` for 0, and `#` for all other words.
func (r *trial) name(v api.Oop) string {
	switch {
	case v == 0:
		return "."
	case !r.h.Is(v):
		return "#"
	}
	return string(rune(r.head(v).Class))
}

func (r *trial) names(l []api.Oop) string {
	b := strings.Builder{}
	for _, v := range l {
		b.WriteString(r.name(v))
	}
	return b.String()
}

// lies asks for the objects of a space.
func (r *trial) lies(sp api.Space, want string) {
	r.Helper()
	same(r.T, spaceNames()[sp], r.names(slices.Collect(r.h.Walk(sp))), want)
}

// refers asks for the names of an object's oops.
func (r *trial) refers(name byte, want string) {
	r.Helper()
	same(r.T, "oops of "+string(rune(name)), r.names(oopsOf(r.T, r.h, r.at(name))), want)
}

// notes asks for the names of what is noted.
func (r *trial) notes(want string) {
	r.Helper()
	same(r.T, "noted", r.names(slices.Collect(r.h.Noted())), want)
}

// roots asks for the names of the roots that are not 0.
func (r *trial) roots(want string) {
	r.Helper()
	same(r.T, "roots", strings.ReplaceAll(r.names(slices.Collect(r.h.Roots())), ".", ""), want)
}

// run holds all that the heap shows behind a run against what the model makes of what it showed ahead.
func (r *trial) run() api.Report {
	r.Helper()
	want, report := pictureOf(r).after()
	got := compact.Run(r.h)
	sameReport(r.T, got, report)
	samePicture(r.T, pictureOf(r), want)
	return got
}

// runs is a run with that report. Of the fired ones it asks for the names, by their addresses behind the run.
func (r *trial) runs(want counts) {
	r.Helper()
	report := r.run()
	got := counts{report.Kept, report.Freed, report.Moved, report.Cleared, r.names(report.Fired)}
	if got != want {
		r.Errorf("reports %+v, not %+v", got, want)
	}
}

type counts struct {
	kept, freed, moved, cleared int
	fired                       string
}

func sameReport(t *testing.T, got, want api.Report) {
	t.Helper()
	if !slices.Equal(got.Fired, want.Fired) {
		t.Errorf("fired %v, not %v", got.Fired, want.Fired)
	}
	got.Fired, want.Fired = nil, nil
	if !reflect.DeepEqual(got, want) {
		t.Errorf("reports %+v, not %+v", got, want)
	}
}

// checks asks for what Check tells; the object by its name.
func (r *trial) checks(want api.Errno, object string) {
	r.Helper()
	before := pictureOf(r)
	e, o := compact.Check(r.h)
	if e != want || r.name(o) != object {
		r.Errorf("Check: %d %s, not %d %s", e, r.name(o), want, object)
	}
	samePicture(r.T, pictureOf(r), before)
	if e, o := before.check(); e != want || r.name(o) != object {
		r.Errorf("the model: %d %s, not %d %s", e, r.name(o), want, object)
	}
}

func (r *trial) sound() {
	r.Helper()
	r.checks(api.OK, ".")
}

func same[T comparable](t *testing.T, what string, got, want T) {
	t.Helper()
	if got != want {
		t.Errorf("%s: %v, not %v", what, got, want)
	}
}

func oopsOf(t *testing.T, h *heap.Heap, o api.Oop) []api.Oop {
	t.Helper()
	n, e := h.Oops(o)
	if e != api.OK {
		t.Fatalf("Oops(%d): %d", o, e)
	}
	l := make([]api.Oop, n)
	for i := range l {
		l[i], _ = h.Slot(o, i)
	}
	return l
}

// restOf is what an object has beside its oops: bytes or words.
func restOf(h *heap.Heap, o api.Oop) []uint64 {
	l := []uint64{}
	n, _ := h.Bytes(o)
	for i := range n {
		b, _ := h.Byte(o, i)
		l = append(l, uint64(b))
	}
	for i := 0; ; i++ {
		w, e := h.Word(o, i)
		if e != api.OK {
			return l
		}
		l = append(l, w)
	}
}
