package graph_test

import (
	"slices"
	"strings"
	"testing"

	"palaver/api"
	"palaver/graph"
	"palaver/heap"
)

// trial is a heap with its sizes, and how often it was flipped: so a test knows which half is past.
type trial struct {
	*testing.T
	h     *heap.Heap
	z     api.Sizes
	flips int
}

// With these, eden begins at 16, the halves at 528 and 656, old at 784 and pins at 2064.
func small() api.Sizes {
	return api.Sizes{Eden: 64, Survivor: 16, Bound: 64, Pins: 16}
}

func wide() api.Sizes {
	return api.Sizes{Eden: 256, Survivor: 128, Bound: 256, Pins: 64}
}

var allSpaces = []api.Space{api.Eden, api.Past, api.Future, api.Old, api.Pins}

func spaceNames() []string {
	return []string{"", "eden", "past", "future", "old", "pins"}
}

func begin(t *testing.T, z api.Sizes) *trial {
	t.Helper()
	h, e := heap.New(z)
	if h == nil || e != api.OK {
		t.Fatalf("New(%+v): %v %d", z, h, e)
	}
	return &trial{T: t, h: h, z: z}
}

func (r *trial) succeeds(e api.Errno) {
	r.Helper()
	if e != api.OK {
		r.Fatalf("error %d", e)
	}
}

// scene is a new heap with objects, and a stack of roots that names some of them.
func scene(t *testing.T, text, stack string) *trial {
	t.Helper()
	r := begin(t, wide())
	r.lay(text)
	r.push(r.all(stack)...)
	return r
}

// lay makes objects, in the order of a text, in the spaces that it names ahead of them (old, if it names none): `A:BC` is A with the oops B and C, `W?X` a weak object, `E!KV` an ephemeron, `M*L` a method with a literal. An oop `.` is 0, and `#` is 1. The class of an object is its letter, by which it is known wherever it goes.
func (r *trial) lay(text string) {
	r.Helper()
	tokens := strings.Fields(text)
	r.make(tokens, true)
	r.make(tokens, false)
	for _, token := range tokens {
		if slices.Contains(spaceNames(), token) || len(token) < 2 {
			continue
		}
		first := 0
		if token[1] == '*' {
			first = 1
		}
		for i := range len(token) - 2 {
			r.set(r.at(token[0]), first+i, r.oop(token[2+i]))
		}
	}
}

// make makes either those objects of a text that are to be in past, or the others. Those of past are made in the future space, ahead of a flip.
func (r *trial) make(tokens []string, past bool) {
	r.Helper()
	sp, made := api.Old, false
	for _, token := range tokens {
		if i := slices.Index(spaceNames(), token); i > 0 {
			sp = api.Space(i)
			continue
		}
		if past != (sp == api.Past) {
			continue
		}
		to := sp
		if past {
			to = api.Future
		}
		r.create(to, token)
		made = true
	}
	if past && made {
		r.flip()
	}
}

func (r *trial) create(sp api.Space, token string) {
	r.Helper()
	f, n := api.FormatPointers, max(0, len(token)-2)
	if n > 0 || len(token) == 2 {
		switch token[1] {
		case '?':
			f = api.FormatWeak
		case '!':
			f = api.FormatEphemeron
		case '*':
			_, e := r.h.AllocMethod(sp, int(token[0]), n, 3)
			r.succeeds(e)
			return
		}
	}
	r.of(sp, token[0], f, n)
}

// of makes an object without anything in it.
func (r *trial) of(sp api.Space, name byte, f api.Format, n int) api.Oop {
	r.Helper()
	o, e := r.h.Alloc(sp, int(name), f, n)
	r.succeeds(e)
	return o
}

// oop is what a letter stands for.
func (r *trial) oop(name byte) api.Oop {
	r.Helper()
	switch name {
	case '.':
		return 0
	case '#':
		return 9
	}
	o := r.at(name)
	if o == 0 {
		r.Fatalf("nothing is called %c", name)
	}
	return o
}

// all are the objects of those letters.
func (r *trial) all(names string) []api.Oop {
	r.Helper()
	var l []api.Oop
	for i := range len(names) {
		l = append(l, r.oop(names[i]))
	}
	return l
}

func (r *trial) set(o api.Oop, i int, v api.Oop) {
	r.Helper()
	r.succeeds(r.h.SetSlot(o, i, v))
}

// spoil lays whatever word into an oop of an object, without a check, and without that anything is noted.
func (r *trial) spoil(o api.Oop, i int, v api.Oop) {
	r.Helper()
	handle := r.of(api.Old, '~', api.FormatPointers, 0)
	r.set(o, i, handle)
	r.succeeds(r.h.Replace(o, replacing(handle, v)))
	r.succeeds(r.h.Free(handle))
}

// push lays whatever words on the stack of roots.
func (r *trial) push(l ...api.Oop) {
	r.Helper()
	for _, v := range l {
		i, e := r.h.Push(0)
		r.succeeds(e)
		r.root(func(v api.Oop) api.Errno { return r.h.SetRoot(i, v) }, v)
	}
}

// root lays whatever word into a root, by the call that writes it.
func (r *trial) root(set func(api.Oop) api.Errno, v api.Oop) {
	r.Helper()
	if set(v) == api.OK {
		return
	}
	handle := r.of(api.Old, '~', api.FormatPointers, 0)
	r.succeeds(set(handle))
	r.succeeds(r.h.Replace(0, replacing(handle, v)))
	r.succeeds(r.h.Free(handle))
}

func replacing(one, other api.Oop) func(api.Oop) api.Oop {
	return func(v api.Oop) api.Oop {
		if v == one {
			return other
		}
		return v
	}
}

func (r *trial) flip() {
	r.h.Flip()
	r.flips++
}

// at is where the object of that name is; 0: nowhere.
func (r *trial) at(name byte) api.Oop {
	r.Helper()
	var found []api.Oop
	for _, sp := range allSpaces {
		for o := range r.h.Walk(sp) {
			if r.name(o) == string(rune(name)) {
				found = append(found, o)
			}
		}
	}
	if len(found) > 1 {
		r.Fatalf("%c is at %v", name, found)
	}
	return append(found, 0)[0]
}

func (r *trial) head(o api.Oop) api.Header {
	r.Helper()
	x, e := r.h.Head(o)
	r.succeeds(e)
	return x
}

// name is the letter of an object, `.` for 0, and `#` for all other words.
func (r *trial) name(v api.Oop) string {
	switch {
	case v == 0:
		return "."
	case !r.h.Is(v):
		return "#"
	}
	return string(rune(r.head(v).Class))
}

func (r *trial) names(l []api.Oop) string {
	b := strings.Builder{}
	for _, v := range l {
		b.WriteString(r.name(v))
	}
	return b.String()
}

// asks holds what the calls tell against what the model makes of what the heap shows, and the heap behind them against that ahead.
func (r *trial) asks() {
	r.Helper()
	p := pictureOf(r)
	sameList(r.T, "Reached", graph.Reached(r.h), p.reached(p.Roots))
	sameList(r.T, "Form", graph.Form(r.h), p.form())
	living, fired := graph.Strong(r.h)
	wantLiving, wantFired := p.strong()
	sameList(r.T, "Strong", living, wantLiving)
	sameList(r.T, "fire", fired, wantFired)
	samePicture(r.T, pictureOf(r), p)
}

// asksFrom does it with From.
func (r *trial) asksFrom(o api.Oop, leaves ...int) {
	r.Helper()
	p := pictureOf(r)
	sameList(r.T, "From", graph.From(r.h, o, leaves...), p.from(o, leaves))
	samePicture(r.T, pictureOf(r), p)
}

// reaches asks for the names of what is reached.
func (r *trial) reaches(want string) {
	r.Helper()
	r.asks()
	same(r.T, "reached", r.names(graph.Reached(r.h)), want)
}

// lives asks for the names of what lives, and of what would fire.
func (r *trial) lives(living, fired string) {
	r.Helper()
	r.asks()
	l, f := graph.Strong(r.h)
	same(r.T, "live", r.names(l), living)
	same(r.T, "fire", r.names(f), fired)
}

// forms asks for a form of which the roots but the stack are 0.
func (r *trial) forms(stack []uint64, objects ...[]uint64) {
	r.Helper()
	r.asks()
	want := slices.Concat(
		[]uint64{uint64(len(objects)), uint64(len(stack)), 0},
		make([]uint64, 64+4096),
		stack,
		slices.Concat(objects...))
	sameList(r.T, "Form", graph.Form(r.h), want)
}

// froms asks for the form of what an oop refers to.
func (r *trial) froms(o api.Oop, leaves []int, name uint64, objects ...[]uint64) {
	r.Helper()
	r.asksFrom(o, leaves...)
	want := slices.Concat([]uint64{uint64(len(objects)), name}, slices.Concat(objects...))
	sameList(r.T, "From", graph.From(r.h, o, leaves...), want)
}

// thing is an object of a form, with neither a hash nor bytes to spare.
func thing(class byte, f api.Format, slots ...uint64) []uint64 {
	return append([]uint64{uint64(class) + 4096*uint64(f), uint64(len(slots))}, slots...)
}

// leaf is a class of which a form has no more.
func leaf(class byte) []uint64 {
	return []uint64{uint64(class) + 4096, 0}
}

func sameList[T comparable](t *testing.T, what string, got, want []T) {
	t.Helper()
	if slices.Equal(got, want) {
		return
	}
	at := 0
	for at < min(len(got), len(want)) && got[at] == want[at] {
		at++
	}
	t.Errorf("%s: %d items, not %d; from %d on %v, not %v", what, len(got), len(want), at, got[at:min(len(got), at+30)], want[at:min(len(want), at+30)])
}

func same[T comparable](t *testing.T, what string, got, want T) {
	t.Helper()
	if got != want {
		t.Errorf("%s: %v, not %v", what, got, want)
	}
}

func oopsOf(t *testing.T, h *heap.Heap, o api.Oop) []api.Oop {
	t.Helper()
	n, e := h.Oops(o)
	if e != api.OK {
		t.Fatalf("Oops(%d): %d", o, e)
	}
	l := make([]api.Oop, n)
	for i := range l {
		l[i], _ = h.Slot(o, i)
	}
	return l
}

// restOf is what an object has beside its oops: bytes or words.
func restOf(h *heap.Heap, o api.Oop) []uint64 {
	l := []uint64{}
	n, _ := h.Bytes(o)
	for i := range n {
		b, _ := h.Byte(o, i)
		l = append(l, uint64(b))
	}
	for i := 0; ; i++ {
		w, e := h.Word(o, i)
		if e != api.OK {
			return l
		}
		l = append(l, w)
	}
}
