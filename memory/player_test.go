package memory_test

import (
	"math"
	"slices"
	"strings"
	"testing"

	"palaver/api"
)

// player does the same to a store and to memories of different sizes, and holds what they answer against each other. All that it does to them it reads again through roots.
type player struct {
	*testing.T
	s    *store
	ms   []*trial
	seed uint64
	what string
}

// thread is a value of the store, and what it is called in each memory, till one of them moves objects.
type thread struct {
	value
	names []api.Oop
}

func (p *player) draw(below int) int {
	p.seed = p.seed*6364136223846793005 + 1442695040888963407
	return int(p.seed >> 33 % uint64(below))
}

// word is what is no object, in all of them.
func (p *player) word(w api.Oop) thread {
	return thread{value{word: w}, slices.Repeat([]api.Oop{w}, len(p.ms))}
}

// asks asks all memories for something, which has to be what the store answers.
func asks[T comparable](p *player, want T, err api.Errno, call func(r *trial, k int) (T, api.Errno)) {
	p.Helper()
	for k, r := range p.ms {
		got, e := call(r, k)
		if got != want || e != err {
			p.Fatalf("%s, %+v: %v %d, not %v %d", p.what, r.z, got, e, want, err)
		}
	}
}

// does lets all memories do something that returns but an error.
func (p *player) does(err api.Errno, call func(r *trial, k int) api.Errno) {
	p.Helper()
	asks(p, 0, err, func(r *trial, k int) (int, api.Errno) { return 0, call(r, k) })
}

// gives asks all memories for a thing, by whatever oop they name it.
func (p *player) gives(want value, err api.Errno, call func(r *trial, k int) (api.Oop, api.Errno)) thread {
	p.Helper()
	th := thread{want, make([]api.Oop, len(p.ms))}
	for k, r := range p.ms {
		o, e := call(r, k)
		wrong := o != want.word
		if want.thing != nil {
			wrong = !r.m.Heap().Is(o)
		}
		if e != err || wrong {
			p.Fatalf("%s, %+v: %d %d, not %v %d", p.what, r.z, o, e, want, err)
		}
		th.names[k] = o
	}
	if err != api.OK {
		p.s.met[err.Error()]++
	}
	return th
}

// made is gives for a thing that may be none, because there was an error.
func (p *player) made(g *thing, err api.Errno, call func(r *trial, k int) (api.Oop, api.Errno)) thread {
	p.Helper()
	return p.gives(value{thing: g}, err, call)
}

// rooted is what a root names.
func (p *player) rooted() thread {
	specials, classes := func(r *trial, i int) (api.Oop, api.Errno) { return r.m.Special(i) }, func(r *trial, i int) (api.Oop, api.Errno) { return r.m.ClassAt(i) }
	l, i, read := p.s.stack, 0, func(r *trial, i int) (api.Oop, api.Errno) { return r.m.Root(i) }
	switch p.draw(10) {
	case 0:
		l, i, read = p.s.specials, p.draw(3), specials
	case 1:
		l, i, read = p.s.classes, []int{0, 7, 4095}[p.draw(3)], classes
	default:
		if len(l) == 0 {
			return p.word(0)
		}
		i = p.draw(len(l))
	}
	return p.gives(l[i], api.OK, func(r *trial, _ int) (api.Oop, api.Errno) { return read(r, i) })
}

// known is what a client may know: it follows oops from a root.
func (p *player) known() thread {
	th := p.rooted()
	for range p.draw(4) {
		if th.thing == nil || len(th.thing.oops) == 0 {
			break
		}
		i := p.draw(len(th.thing.oops))
		if th.thing.oops[i].thing != nil {
			th = p.gives(th.thing.oops[i], api.OK, func(r *trial, k int) (api.Oop, api.Errno) { return r.m.Slot(th.names[k], i) })
		}
	}
	return th
}

// anything is mostly a thing, and now and then what is none, or nothing at all.
func (p *player) anything() thread {
	if p.draw(12) == 0 {
		return p.word([]api.Oop{0, 1, 9, 2, 778, math.MaxUint64, 3, 4, 8*2097152 + 2, 1 << 31, 1<<31 - 8, 8}[p.draw(12)])
	}
	th := p.known()
	for range 3 {
		if th.thing == nil {
			th = p.known()
		}
	}
	return th
}

// keep lets a root or something known name what was made; or nothing does.
func (p *player) keep(th thread) {
	if th.thing == nil {
		p.drop()
		return
	}
	switch p.draw(5) {
	case 0:
		to := p.known()
		i := 0
		if to.thing != nil {
			i = p.draw(len(to.thing.oops) + 1)
		}
		p.setSlot(to, i, th)
	case 1:
		p.setRoot(th)
	case 2:
	default:
		p.push(th)
	}
}

func (p *player) push(th thread) {
	at := len(p.s.stack)
	err := p.s.push(th.value)
	if err != api.OK {
		at = 0
	}
	asks(p, at, err, func(r *trial, k int) (int, api.Errno) { return r.m.Push(th.names[k]) })
}

// drop takes objects from the roots: there is too much of them.
func (p *player) drop() {
	for range 1 + p.draw(4) {
		v, err := p.s.pop()
		p.gives(v, err, func(r *trial, _ int) (api.Oop, api.Errno) { return r.m.Pop() })
	}
	i, j := p.draw(3), []int{0, 7, 4095}[p.draw(3)]
	p.does(p.s.setRoot(p.s.specials, i, value{}), func(r *trial, _ int) api.Errno { return r.m.SetSpecial(i, 0) })
	p.does(p.s.setRoot(p.s.classes, j, value{}), func(r *trial, _ int) api.Errno { return r.m.SetClassAt(j, 0) })
}

func (p *player) setRoot(th thread) {
	switch p.draw(3) {
	case 0:
		i := p.draw(4) - 1
		p.does(p.s.setRoot(p.s.specials, i, th.value), func(r *trial, k int) api.Errno { return r.m.SetSpecial(i, th.names[k]) })
	case 1:
		i := []int{0, 7, 4095, 4096}[p.draw(4)]
		p.does(p.s.setRoot(p.s.classes, i, th.value), func(r *trial, k int) api.Errno { return r.m.SetClassAt(i, th.names[k]) })
	case 2:
		i := p.draw(len(p.s.stack)+2) - 1
		p.does(p.s.setRoot(p.s.stack, i, th.value), func(r *trial, k int) api.Errno { return r.m.SetRoot(i, th.names[k]) })
	}
}

func (p *player) setSlot(to thread, i int, th thread) {
	p.does(p.s.setSlot(to.value, i, th.value), func(r *trial, k int) api.Errno { return r.m.SetSlot(to.names[k], i, th.names[k]) })
}

// create makes an object of a format that is drawn; now and then one that may not be, or a great one.
func (p *player) create() thread {
	class, n := []int{-1, 0, 5, 5, 5, 6, 6, 7, 4095, 4096}[p.draw(10)], p.draw(7)
	switch p.draw(30) {
	case 0:
		n = []int{-1, 65537, math.MaxInt, math.MinInt, 8 * 65537, 65536}[p.draw(6)]
	case 1, 2, 3:
		n = 25 + p.draw(30)
	}
	switch f := []api.Format{0, 1, 1, 1, 1, 2, 2, 3, 3, 4, 5, 6, 7}[p.draw(13)]; {
	case f == api.FormatMethod:
		literals := p.draw(5) - p.draw(40)/39
		g, err := p.s.alloc(class, f, literals, n)
		return p.made(g, err, func(r *trial, _ int) (api.Oop, api.Errno) { return r.m.AllocMethod(class, literals, n) })
	case f == api.FormatBytes && n >= 0 && n < 100:
		text := strings.Repeat("text", 25)[:n]
		g, err := p.s.alloc(class, f, 0, n)
		if err == api.OK {
			copy(g.bytes, text)
		}
		return p.made(g, err, func(r *trial, _ int) (api.Oop, api.Errno) { return r.m.AllocText(class, text) })
	default:
		g, err := p.s.alloc(class, f, 0, n)
		return p.made(g, err, func(r *trial, _ int) (api.Oop, api.Errno) { return r.m.Alloc(class, f, n) })
	}
}

// hang makes an object that a weak one or an ephemeron alone names.
func (p *player) hang() {
	f := []api.Format{api.FormatWeak, api.FormatEphemeron}[p.draw(2)]
	g, err := p.s.alloc(5, f, 0, 2)
	th := p.made(g, err, func(r *trial, _ int) (api.Oop, api.Errno) { return r.m.Alloc(5, f, 2) })
	if th.thing == nil {
		p.drop()
		return
	}
	p.push(th)
	if hung := p.create(); hung.thing != nil {
		at := len(p.s.stack) - 1
		th = p.gives(p.s.stack[at], api.OK, func(r *trial, _ int) (api.Oop, api.Errno) { return r.m.Root(at) })
		p.setSlot(th, 0, hung)
		p.setSlot(th, 1, p.known())
	}
}

func (p *player) clone() {
	one := p.anything()
	collected := p.s.count
	g, err := p.s.clone(one.value)
	if p.s.count < collected {
		p.s.met["clone collected"]++
	}
	p.keep(p.made(g, err, func(r *trial, k int) (api.Oop, api.Errno) { return r.m.Clone(one.names[k]) }))
}

// change changes something of an object, or refuses to.
func (p *player) change() {
	o, i := p.anything(), p.draw(12)-1
	switch p.draw(5) {
	case 0:
		class := []int{-1, 0, 9, 4095, 4096}[p.draw(5)]
		p.does(p.s.setClass(o.value, class), func(r *trial, k int) api.Errno { return r.m.SetClass(o.names[k], class) })
	case 1:
		w := p.seed
		p.does(p.s.setWord(o.value, i, w), func(r *trial, k int) api.Errno { return r.m.SetWord(o.names[k], i, w) })
	case 2, 3:
		text := "changed"[:p.draw(8)]
		p.does(p.s.setText(o.value, i, text), func(r *trial, k int) api.Errno { return r.m.SetText(o.names[k], i, text) })
	case 4:
		n, err := p.s.hash(o.value)
		asks(p, n, err, func(r *trial, k int) (int, api.Errno) { return r.m.Hash(o.names[k]) })
	}
}

// pin pins, and names what was pinned anew.
func (p *player) pin() {
	o := p.anything()
	g, err := p.s.pin(o.value)
	th := p.made(g, err, func(r *trial, k int) (api.Oop, api.Errno) { return r.m.Pin(o.names[k]) })
	if g != nil {
		p.s.met["pinned"]++
		asks(p, g.place, api.OK, func(r *trial, k int) (int, api.Errno) { return r.m.Heap().Place(th.names[k]), api.OK })
		p.push(th)
	}
}

func (p *player) become() {
	var a, b []value
	as, bs := make([][]api.Oop, len(p.ms)), make([][]api.Oop, len(p.ms))
	add := func(l *[]value, names [][]api.Oop) {
		th := p.anything()
		*l = append(*l, th.value)
		for k := range names {
			names[k] = append(names[k], th.names[k])
		}
	}
	for range p.draw(4) {
		add(&a, as)
		add(&b, bs)
	}
	if p.draw(20) == 0 {
		add(&b, bs)
	}
	err := p.s.become(a, b)
	p.does(err, func(r *trial, k int) api.Errno { return r.m.Become(as[k], bs[k]) })
	if err == api.OK && len(a) > 0 {
		p.s.met["became"]++
	}
}

func (p *player) collect() {
	kept, cleared, fired := p.s.collect(nil)
	for _, r := range p.ms {
		objects := len(pictureOf(r).Objects)
		report := r.m.Collect()
		if report.Kept != kept || report.Cleared != cleared || len(report.Fired) != len(fired) || report.Tenured != 0 || report.Kept+report.Freed != objects {
			p.Fatalf("%+v: %+v of %d, not %d %d %d", r.z, report, objects, kept, cleared, len(fired))
		}
		sameList(p.T, "fired", report.Fired, r.queue()[len(p.s.queue)-len(fired):])
	}
}

func (p *player) scavenge() {
	for _, r := range p.ms {
		young := 0
		for o := range pictureOf(r).Objects {
			if r.space(o) < api.Old {
				young++
			}
		}
		report, e := r.m.Scavenge()
		if e != api.OK || report.Kept+report.Freed != young || report.Tenured > report.Kept || report.Moved+report.Cleared+len(report.Fired) > 0 {
			p.Fatalf("%+v: %+v of %d, %d", r.z, report, young, e)
		}
	}
}

func (p *player) remake() {
	_, x, literals := aHeader(p.draw, p.s.pins)
	x.Class, x.Spare, x.Marked, x.Noted = 5, 0, false, false
	x.Format, x.Slots, x.Hash, x.Age = max(1, min(6, x.Format)), 3, 0, x.Age%16
	if literals > 2 || literals < 0 || x.Format != api.FormatMethod {
		literals = 0
	}
	at := -1
	if p.draw(2) == 0 {
		at = p.draw(p.s.pins + 2)
	}
	g, err := p.s.remake(at, x, literals)
	p.keep(p.made(g, err, func(r *trial, _ int) (api.Oop, api.Errno) { return r.m.Remake(at, x, literals) }))
}

// step does one thing that a client may do.
func (p *player) step() {
	kind := p.draw(25)
	p.what = []string{"create", "hang", "clone", "setSlot", "change", "pin", "become", "collect", "scavenge", "fired", "remake", "setRoot", "drop"}[[]int{0, 0, 0, 0, 1, 1, 1, 2, 2, 3, 3, 3, 3, 4, 4, 5, 6, 6, 6, 7, 8, 9, 10, 11, 12}[kind]]
	switch p.what {
	case "create":
		p.keep(p.create())
	case "hang":
		p.hang()
	case "clone":
		p.clone()
	case "setSlot":
		to := p.anything()
		i := p.draw(3) - 1
		if to.thing != nil {
			i = p.draw(len(to.thing.oops)+2) - 1
		}
		p.setSlot(to, i, p.anything())
	case "change":
		p.change()
	case "pin":
		p.pin()
	case "become":
		p.become()
	case "collect":
		if p.draw(5) == 0 {
			p.collect()
		}
	case "scavenge":
		p.scavenge()
	case "fired":
		v := p.s.fired()
		th := p.gives(v, api.OK, func(r *trial, _ int) (api.Oop, api.Errno) { return r.m.Fired(), api.OK })
		p.keep(th)
	case "remake":
		p.remake()
	case "setRoot":
		p.setRoot(p.anything())
	case "drop":
		if len(p.s.stack) > 10 {
			p.drop()
		}
	}
}

// compare goes from the roots through a memory and the store at once: each object is one thing, and each thing one object.
func (p *player) compare(r *trial) {
	p.Helper()
	names, things := map[*thing]api.Oop{}, map[api.Oop]*thing{}
	var queue []*thing
	pair := func(o api.Oop, v value) {
		g := v.thing
		switch {
		case g == nil && o == v.word:
		case g == nil || !r.m.Heap().Is(o) || names[g] != 0 && names[g] != o || things[o] != nil && things[o] != g:
			p.Fatalf("%s, %+v: %d is not %v", p.what, r.z, o, v)
		case names[g] == 0:
			names[g], things[o] = o, g
			queue = append(queue, g)
		}
	}
	roots, wanted := slices.Collect(r.m.Heap().Roots()), slices.Concat(p.s.roots()...)
	same(p.T, "roots", len(roots), len(wanted))
	same(p.T, "depth", r.m.Depth(), len(p.s.stack))
	for i, v := range wanted {
		pair(roots[i], v)
	}
	for i := 0; i < len(queue); i++ {
		g := queue[i]
		seen := r.look(names[g])
		same(p.T, "oops", len(seen.Oops), len(g.oops))
		for j, v := range g.oops {
			pair(seen.Oops[j], v)
		}
		x := seen.Head
		if x.Class != g.class || x.Format != g.format || x.Hash != g.hash || 2+x.Slots != g.size || seen.Bytes != string(g.bytes) || !slices.Equal(seen.Words, g.words) || r.m.Heap().Place(names[g]) != g.place || r.m.Pinned(names[g]) != (g.place >= 0) {
			p.Fatalf("%s, %+v: %+v is not %+v", p.what, r.z, seen, g)
		}
	}
	same(p.T, "count", r.m.Count(), p.s.count)
	same(p.T, "given", r.m.Heap().Given(), p.s.given)
}

// What holds, T1: whatever is done in whatever order, memories of whatever sizes answer what a store answers that never moves anything, and so all the same, if they have the same Bound.
func TestCollectionsAreNotObservable(t *testing.T) {
	met := map[string]int{}
	for seed, bound := range []int{64, 100, 150, 300, 700} {
		const pins = 24
		p := &player{T: t, s: storeOf(bound, pins), seed: uint64(seed)}
		for _, z := range []api.Sizes{{Eden: 64, Survivor: 16}, {Eden: 64, Survivor: 64, Tenure: 15}, {Eden: 100, Survivor: 20, Tenure: 1}, {Eden: 65536, Survivor: 300, Tenure: 2}} {
			z.Bound, z.Pins = bound, pins
			p.ms = append(p.ms, begin(t, z))
		}
		for i := range 3000 {
			p.step()
			for _, r := range p.ms {
				r.sound()
			}
			p.compare(p.ms[i%len(p.ms)])
			if t.Failed() {
				t.Fatal(p.what)
			}
		}
		for what, n := range p.s.met {
			met[what] += n
		}
	}
	for what, least := range map[string]int{"collected": 200, "clone collected": 20, "pinned": 100, "became": 100, "cleared": 200, "fired": 200, api.ErrMemoryFull.Error(): 100, api.ErrMemoryPins.Error(): 20, api.ErrArg.Error(): 200} {
		if met[what] < least {
			t.Errorf("hardly anything was tried: %q %d times", what, met[what])
		}
	}
}
