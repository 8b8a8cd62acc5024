package heap_test

import (
	"maps"
	"slices"

	"palaver/api"
)

// A model of a heap that has no words: each object has lists of its own, and what is told of them is computed anew each time.

type thing struct {
	head  api.Header
	oops  []api.Oop
	bytes []byte
	words []uint64
}

func (g *thing) size() int { return 2 + g.head.Slots }

func (g *thing) isMethod() bool { return g.head.Format == api.FormatMethod }

type model struct {
	z        api.Sizes
	past     int    // which half is past: 1 or 2
	tops     [6]int // how many words of a part are behind its top: eden 0, the halves 1 and 2, old 3
	things   map[api.Oop]*thing
	noted    []api.Oop
	forwards map[api.Oop]api.Oop
	specials []api.Oop
	classes  []api.Oop
	stack    []api.Oop
	queue    []api.Oop
	given    int
}

func modelOf(z api.Sizes) *model {
	return &model{z: z, past: 1, things: map[api.Oop]*thing{}, forwards: map[api.Oop]api.Oop{}, specials: make([]api.Oop, 64), classes: make([]api.Oop, 4096)}
}

// The parts of the memory: eden, two halves, old, pins.
func (m *model) sizes() []int {
	return []int{m.z.Eden, m.z.Survivor, m.z.Survivor, m.z.Bound + m.z.Eden + 2*m.z.Survivor, m.z.Pins}
}

func (m *model) begin(part int) api.Oop {
	at := 2
	for _, n := range m.sizes()[:part] {
		at += n
	}
	return api.Oop(8 * at)
}

func (m *model) end() api.Oop { return m.begin(4) + api.Oop(8*m.z.Pins) }

// part is where a space is; -1: it is none.
func (m *model) part(sp api.Space) int {
	switch sp {
	case api.Eden:
		return 0
	case api.Past:
		return m.past
	case api.Future:
		return 3 - m.past
	case api.Old:
		return 3
	case api.Pins:
		return 4
	}
	return -1
}

// inPart are the objects of a part, by their addresses.
func (m *model) inPart(part int) []api.Oop {
	var l []api.Oop
	for _, o := range slices.Sorted(maps.Keys(m.things)) {
		if m.partOf(o) == part {
			l = append(l, o)
		}
	}
	return l
}

func (m *model) partOf(o api.Oop) int {
	for part := 4; part >= 0; part-- {
		if o >= m.begin(part) {
			return part
		}
	}
	return -1
}

func (m *model) space(o api.Oop) api.Space {
	if m.things[o] == nil {
		return 0
	}
	for _, sp := range allSpaces {
		if m.part(sp) == m.partOf(o) {
			return sp
		}
	}
	return 0
}

func (m *model) isYoung(o api.Oop) bool {
	sp := m.space(o)
	return sp == api.Eden || sp == api.Past || sp == api.Future
}

func (m *model) isStorable(v api.Oop) bool {
	return v == 0 || v%8 == 1 || v%8 == 2 && v/8 <= 2097151 || m.things[v] != nil
}

// isFreeInPins tells whether a word of pins is no object's.
func (m *model) isFreeInPins(place int) bool {
	at := m.begin(4) + api.Oop(8*place)
	for o, g := range m.things {
		if m.partOf(o) == 4 && o <= at && at < o+api.Oop(8*g.size()) {
			return false
		}
	}
	return place < m.z.Pins
}

func (m *model) areFreeInPins(place, size int) bool {
	for i := range size {
		if !m.isFreeInPins(place + i) {
			return false
		}
	}
	return true
}

func (m *model) room(sp api.Space) int {
	part := m.part(sp)
	if part < 0 {
		return 0
	}
	if part < 4 {
		return m.sizes()[part] - m.tops[part]
	}
	longest, now := 0, 0
	for place := range m.z.Pins {
		now++
		if !m.isFreeInPins(place) {
			now = 0
		}
		longest = max(longest, now)
	}
	return longest
}

func (m *model) used(sp api.Space) int {
	n := 0
	for o, g := range m.things {
		if m.space(o) == sp {
			n += g.size()
		}
	}
	return n
}

// find is where an object of that size goes; 0: nowhere.
func (m *model) find(sp api.Space, size int) api.Oop {
	part := m.part(sp)
	if part == 4 {
		for place := range m.z.Pins {
			if m.areFreeInPins(place, size) {
				return m.begin(4) + api.Oop(8*place)
			}
		}
		return 0
	}
	if m.tops[part]+size > m.sizes()[part] {
		return 0
	}
	o := m.begin(part) + api.Oop(8*m.tops[part])
	m.tops[part] += size
	return o
}

func (m *model) note(o api.Oop) {
	if g := m.things[o]; !g.head.Noted {
		g.head.Noted = true
		m.noted = append(m.noted, o)
	}
}

func (m *model) noteIfYoung(o, v api.Oop) {
	if sp := m.space(o); (sp == api.Old || sp == api.Pins) && m.isYoung(v) {
		m.note(o)
	}
}

func (m *model) alloc(sp api.Space, class int, f api.Format, n int) (api.Oop, api.Errno) {
	if f == api.FormatMethod {
		return 0, api.ErrArg
	}
	return m.create(sp, class, f, 0, n)
}

func (m *model) create(sp api.Space, class int, f api.Format, literals, n int) (api.Oop, api.Errno) {
	if sp != api.Eden && sp != api.Future && sp != api.Old && sp != api.Pins || class < 0 || class > 4095 || n < 0 || literals < 0 {
		return 0, api.ErrArg
	}
	g := &thing{head: api.Header{Class: class, Format: f}}
	switch f {
	case api.FormatPointers, api.FormatWeak, api.FormatEphemeron:
		if f == api.FormatEphemeron && n == 0 || n > 65536 {
			return 0, api.ErrArg
		}
		g.oops = slices.Repeat(m.specials[:1], n)
		g.head.Slots = n
	case api.FormatWords:
		if n > 65536 {
			return 0, api.ErrArg
		}
		g.words = make([]uint64, n)
		g.head.Slots = n
	case api.FormatBytes, api.FormatMethod:
		if n > 8*65536 || literals > 65536 {
			return 0, api.ErrArg
		}
		g.bytes = make([]byte, n)
		for g.head.Slots*8 < n {
			g.head.Slots++
		}
		g.head.Spare = g.head.Slots*8 - n
		if f == api.FormatMethod {
			g.oops = append([]api.Oop{api.Oop(8*literals + 1)}, slices.Repeat(m.specials[:1], literals)...)
			g.head.Slots += len(g.oops)
		}
		if g.head.Slots > 65536 {
			return 0, api.ErrArg
		}
	default:
		return 0, api.ErrArg
	}
	o := m.find(sp, g.size())
	if o == 0 {
		return 0, api.ErrHeapFull
	}
	m.things[o] = g
	for _, v := range g.oops {
		m.noteIfYoung(o, v)
	}
	return o, api.OK
}

func (m *model) setSlot(o api.Oop, i int, v api.Oop) api.Errno {
	g := m.things[o]
	switch {
	case g == nil:
		return api.ErrHeapOop
	case i < 0 || i >= len(g.oops):
		return api.ErrHeapIndex
	case g.isMethod() && i == 0:
		return api.ErrHeapKind
	case !m.isStorable(v):
		return api.ErrArg
	}
	g.oops[i] = v
	m.noteIfYoung(o, v)
	return api.OK
}

func (m *model) setByte(o api.Oop, i int, b byte) api.Errno {
	g := m.things[o]
	switch {
	case g == nil:
		return api.ErrHeapOop
	case i < 0 || i >= len(g.bytes):
		return api.ErrHeapIndex
	}
	g.bytes[i] = b
	return api.OK
}

func (m *model) setWord(o api.Oop, i int, w uint64) api.Errno {
	g := m.things[o]
	switch {
	case g == nil:
		return api.ErrHeapOop
	case g.head.Format != api.FormatWords:
		return api.ErrHeapKind
	case i < 0 || i >= len(g.words):
		return api.ErrHeapIndex
	}
	g.words[i] = w
	return api.OK
}

func (m *model) setClass(o api.Oop, class int) api.Errno {
	switch g := m.things[o]; {
	case g == nil:
		return api.ErrHeapOop
	case class < 0 || class > 4095:
		return api.ErrArg
	default:
		g.head.Class = class
	}
	return api.OK
}

func (m *model) setFormat(o api.Oop, f api.Format) api.Errno {
	switch g := m.things[o]; {
	case g == nil:
		return api.ErrHeapOop
	case g.head.Format > 3 || f < 1 || f > 3:
		return api.ErrHeapKind
	case f == api.FormatEphemeron && len(g.oops) == 0:
		return api.ErrArg
	default:
		g.head.Format = f
	}
	return api.OK
}

func (m *model) hash(o api.Oop) (int, api.Errno) {
	g := m.things[o]
	if g == nil {
		return 0, api.ErrHeapOop
	}
	if g.head.Hash == 0 {
		g.head.Hash = m.given%4194303 + 1
		m.given = (m.given + 1) % 4194303
	}
	return g.head.Hash, api.OK
}

func (m *model) setRoot(l []api.Oop, i int, v api.Oop) api.Errno {
	if i < 0 || i >= len(l) {
		return api.ErrHeapRoot
	}
	if !m.isStorable(v) {
		return api.ErrArg
	}
	l[i] = v
	return api.OK
}

func (m *model) push(v api.Oop) (int, api.Errno) {
	if len(m.stack) == 4096 {
		return 0, api.ErrHeapRoot
	}
	if !m.isStorable(v) {
		return 0, api.ErrArg
	}
	m.stack = append(m.stack, v)
	return len(m.stack) - 1, api.OK
}

func (m *model) pop() (api.Oop, api.Errno) {
	if len(m.stack) == 0 {
		return 0, api.ErrHeapRoot
	}
	v := m.stack[len(m.stack)-1]
	m.stack = m.stack[:len(m.stack)-1]
	return v, api.OK
}

func (m *model) enqueue(o api.Oop) api.Errno {
	if m.things[o] == nil {
		return api.ErrHeapOop
	}
	m.queue = append(m.queue, o)
	return api.OK
}

func (m *model) dequeue() api.Oop {
	if len(m.queue) == 0 {
		return 0
	}
	o := m.queue[0]
	m.queue = slices.Delete(m.queue, 0, 1)
	return o
}

func (m *model) noteByCall(o api.Oop) api.Errno {
	if m.things[o] == nil {
		return api.ErrHeapOop
	}
	if m.isYoung(o) {
		return api.ErrHeapKind
	}
	m.note(o)
	return api.OK
}

func (m *model) copy(o api.Oop, sp api.Space, age int) (api.Oop, api.Errno) {
	g := m.things[o]
	if g == nil {
		return 0, api.ErrHeapOop
	}
	if sp != api.Future && sp != api.Old && sp != api.Pins || age < 0 || age > 15 {
		return 0, api.ErrArg
	}
	to := m.find(sp, g.size())
	if to == 0 {
		return 0, api.ErrHeapFull
	}
	c := &thing{head: g.head, oops: slices.Clone(g.oops), bytes: slices.Clone(g.bytes), words: slices.Clone(g.words)}
	c.head.Age, c.head.Marked, c.head.Noted = age, false, false
	m.things[to] = c
	return to, api.OK
}

func (m *model) free(o api.Oop) api.Errno {
	if m.things[o] == nil {
		return api.ErrHeapOop
	}
	delete(m.things, o)
	m.noted = slices.DeleteFunc(m.noted, func(v api.Oop) bool { return v == o })
	return api.OK
}

func (m *model) forward(o, to api.Oop) api.Errno {
	if m.things[o] == nil {
		return api.ErrHeapOop
	}
	if m.things[to] == nil || o == to {
		return api.ErrArg
	}
	m.forwards[o] = to
	return m.free(o)
}

func (m *model) replace(o api.Oop, f func(api.Oop) api.Oop) api.Errno {
	lists := [][]api.Oop{m.specials, m.classes, m.stack, m.queue}
	if o != 0 {
		g := m.things[o]
		if g == nil {
			return api.ErrHeapOop
		}
		lists = [][]api.Oop{g.oops}
		if g.isMethod() {
			lists = [][]api.Oop{g.oops[1:]}
		}
	}
	for _, l := range lists {
		for i, v := range l {
			if _, is := m.forwards[v]; is || m.things[v] != nil {
				l[i] = f(v)
			}
		}
	}
	return api.OK
}

// forget takes all objects and forwarded addresses out of a part.
func (m *model) forget(part int) {
	maps.DeleteFunc(m.things, func(o api.Oop, _ *thing) bool { return m.partOf(o) == part })
	maps.DeleteFunc(m.forwards, func(o, _ api.Oop) bool { return m.partOf(o) == part })
	m.tops[part] = 0
}

func (m *model) flip() {
	m.forget(0)
	m.forget(m.past)
	m.past = 3 - m.past
	m.noted = slices.DeleteFunc(m.noted, func(o api.Oop) bool {
		m.things[o].head.Noted = slices.ContainsFunc(m.things[o].oops, m.isYoung)
		return !m.things[o].head.Noted
	})
}

func (m *model) mark(o api.Oop, mark bool) (bool, api.Errno) {
	g := m.things[o]
	if g == nil {
		return false, api.ErrHeapOop
	}
	was := g.head.Marked
	g.head.Marked = mark
	return was, api.OK
}

func (m *model) slide() int {
	names := map[api.Oop]api.Oop{}
	moved, at := 0, m.begin(3)
	kept := map[api.Oop]*thing{}
	for _, o := range m.inPart(3) {
		names[o], kept[at] = at, m.things[o]
		if at != o {
			moved++
		}
		at += api.Oop(8 * m.things[o].size())
	}
	rename := func(l []api.Oop) {
		for i, v := range l {
			if to, is := names[v]; is {
				l[i] = to
			}
		}
	}
	for _, g := range m.things {
		rename(g.oops)
	}
	for _, l := range [][]api.Oop{m.specials, m.classes, m.stack, m.queue, m.noted} {
		rename(l)
	}
	m.forget(3)
	for from, to := range m.forwards {
		if name, is := names[to]; is {
			m.forwards[from] = name
		}
	}
	maps.Copy(m.things, kept)
	m.tops[3] = int(at-m.begin(3)) / 8
	return moved
}

func (m *model) place(o api.Oop) int {
	if m.space(o) != api.Pins {
		return -1
	}
	return int(o-m.begin(4)) / 8
}

func (m *model) setGiven(n int) api.Errno {
	if n < 0 || n > 4194302 {
		return api.ErrArg
	}
	m.given = n
	return api.OK
}

func (m *model) remake(at int, x api.Header, literals int) (api.Oop, api.Errno) {
	if !validByDocument(x) || x.Marked || x.Noted || at < -1 || x.Format != api.FormatMethod && literals != 0 {
		return 0, api.ErrArg
	}
	g := &thing{head: x}
	switch x.Format {
	case api.FormatMethod:
		if literals < 0 || literals > x.Slots-1 || literals == x.Slots-1 && x.Spare != 0 {
			return 0, api.ErrArg
		}
		g.oops = append([]api.Oop{api.Oop(8*literals + 1)}, make([]api.Oop, literals)...)
		g.bytes = make([]byte, 8*(x.Slots-1-literals)-x.Spare)
	case api.FormatBytes:
		g.bytes = make([]byte, 8*x.Slots-x.Spare)
	case api.FormatWords:
		g.words = make([]uint64, x.Slots)
	default:
		g.oops = make([]api.Oop, x.Slots)
	}
	o := api.Oop(0)
	if at == -1 {
		o = m.find(api.Old, g.size())
	} else if at < m.z.Pins && m.areFreeInPins(at, g.size()) {
		o = m.begin(4) + api.Oop(8*at)
	}
	if o == 0 {
		return 0, api.ErrHeapFull
	}
	m.things[o] = g
	return o, api.OK
}

func validByDocument(x api.Header) bool {
	if x.Class < 0 || x.Class > 4095 || x.Hash < 0 || x.Hash > 4194303 || x.Age < 0 || x.Age > 15 || x.Slots < 0 || x.Slots > 65536 || x.Spare < 0 || x.Spare > 7 {
		return false
	}
	switch x.Format {
	case 1, 2, 4:
		return x.Spare == 0
	case 3:
		return x.Spare == 0 && x.Slots >= 1
	case 5:
		return x.Spare == 0 || x.Slots >= 1
	case 6:
		return x.Slots >= 1 && (x.Spare == 0 || x.Slots >= 2)
	}
	return false
}

// picture is what a heap shows that is like the model.
func (m *model) picture() picture {
	p := picture{Noted: noneAsNil(m.noted), Depth: len(m.stack), Queued: len(m.queue), Given: m.given}
	for _, l := range [][]api.Oop{m.specials, m.classes, m.stack, m.queue} {
		for _, v := range l {
			if v != 0 {
				p.Roots = append(p.Roots, root{p.RootsAll, v})
			}
			p.RootsAll++
		}
	}
	for sp := range api.Space(8) {
		p.Rooms[sp], p.Useds[sp] = m.room(sp), m.used(sp)
		if part := m.part(sp); part >= 0 {
			p.Walks[sp] = m.inPart(part)
		}
	}
	for _, o := range slices.Sorted(maps.Keys(m.things)) {
		g := m.things[o]
		p.Objects = append(p.Objects, seen{o, m.space(o), m.place(o), g.head, noneAsNil(g.oops), noneAsNil(g.bytes), noneAsNil(g.words)})
	}
	for _, o := range slices.Sorted(maps.Keys(m.forwards)) {
		p.Forwards = append(p.Forwards, link{o, m.forwards[o]})
	}
	return p
}

func noneAsNil[E any](l []E) []E {
	if len(l) == 0 {
		return nil
	}
	return slices.Clone(l)
}
