package memory_test

import (
	"slices"

	"palaver/api"
)

// A store that never moves anything: its things are known by themselves, it has neither eden nor old, and it collects only where the chapter says that a memory does. What a memory answers is held against it.

type thing struct {
	class  int
	format api.Format
	hash   int
	oops   []value
	words  []uint64
	bytes  []byte
	size   int
	place  int // in pins; -1: it is not pinned
}

// value is a thing, or, if there is none, a word.
type value struct {
	thing *thing
	word  api.Oop
}

func (v value) isStorable() bool {
	return v.thing != nil || v.word == 0 || v.word%8 == 1 || v.word%8 == 2 && v.word/8 <= 2097151
}

type store struct {
	bound, pins int
	count       int
	given       int
	specials    []value
	classes     []value
	stack       []value
	queue       []value
	pinned      []*thing       // what has words of pins: also such as nobody names, till a full collection
	met         map[string]int // how often something came to pass
}

func storeOf(bound, pins int) *store {
	return &store{bound: bound, pins: pins, specials: make([]value, 64), classes: make([]value, 4096), met: map[string]int{}}
}

func (s *store) roots() [][]value {
	return [][]value{s.specials, s.classes, s.stack, s.queue}
}

// reached are all things that roots name, over whatever oops.
func (s *store) reached() []*thing {
	var l []*thing
	met := map[*thing]int{}
	visit := func(oops []value) {
		for _, v := range oops {
			if v.thing != nil && met[v.thing] == 0 {
				l = append(l, v.thing)
				met[v.thing] = len(l)
			}
		}
	}
	for _, root := range s.roots() {
		visit(root)
	}
	for i := 0; i < len(l); i++ {
		visit(l[i].oops)
	}
	return l
}

// living is what chapter 6 says of what lives, and of what fires; held is a root after all others.
func (s *store) living(held *thing) (queue, fired []*thing) {
	lives := map[*thing]int{}
	visit := func(l []value) {
		for _, v := range l {
			if v.thing != nil && lives[v.thing] == 0 {
				queue = append(queue, v.thing)
				lives[v.thing] = len(queue)
			}
		}
	}
	waits := func(g *thing) bool {
		key := g.oops[0].thing
		return key != nil && lives[key] == 0
	}
	for _, root := range s.roots() {
		visit(root)
	}
	visit([]value{{thing: held}})
	var waiting []*thing
	for next := 0; ; {
		for ; next < len(queue); next++ {
			g := queue[next]
			switch {
			case g.format == api.FormatEphemeron && waits(g):
				waiting = append(waiting, g)
			case g.format != api.FormatWeak:
				visit(g.oops)
			}
		}
		var still []*thing
		for _, g := range waiting {
			if waits(g) {
				still = append(still, g)
			} else {
				visit(g.oops)
			}
		}
		switch {
		case len(still) < len(waiting):
			waiting = still
		case len(still) > 0:
			for _, g := range still {
				visit(g.oops)
			}
			fired = append(fired, still...)
			waiting = nil
		default:
			return queue, fired
		}
	}
}

// collect is a full collection: how many things are kept, how many oops were cleared, and what has fired.
func (s *store) collect(held *thing) (kept, cleared int, fired []*thing) {
	living, fired := s.living(held)
	for _, g := range fired {
		g.format = api.FormatPointers
		s.queue = append(s.queue, value{thing: g})
	}
	s.count = 0
	for _, g := range living {
		s.count += g.size
		if g.format != api.FormatWeak {
			continue
		}
		for i, v := range g.oops {
			if v.thing != nil && !slices.Contains(living, v.thing) {
				g.oops[i] = s.specials[0]
				cleared++
			}
		}
	}
	s.met["collected"]++
	s.met["cleared"] += cleared
	s.met["fired"] += len(fired)
	s.pinned = slices.DeleteFunc(s.pinned, func(g *thing) bool { return !slices.Contains(living, g) })
	return len(living), cleared, fired
}

// charge counts words, behind a collection if they are too many.
func (s *store) charge(size int, held *thing) api.Errno {
	if s.count+size > s.bound {
		s.collect(held)
	}
	if s.count+size > s.bound {
		return api.ErrMemoryFull
	}
	s.count += size
	return api.OK
}

// alloc makes a thing: of literals only a method has some.
func (s *store) alloc(class int, f api.Format, literals, n int) (*thing, api.Errno) {
	size := 2 + n
	switch {
	case class < 0 || class > 4095 || n < 0 || n > 8*65536 || f < 1 || f > 6 || f == api.FormatEphemeron && n == 0 || literals < 0:
		return nil, api.ErrArg
	case f == api.FormatBytes:
		size = 2 + (n+7)/8
	case f == api.FormatMethod:
		size = 3 + literals + (n+7)/8
	}
	if size > 2+65536 {
		return nil, api.ErrArg
	}
	if e := s.charge(size, nil); e != api.OK {
		return nil, e
	}
	g := &thing{class: class, format: f, size: size, place: -1}
	switch f {
	case api.FormatWords:
		g.words = make([]uint64, n)
	case api.FormatBytes:
		g.bytes = make([]byte, n)
	case api.FormatMethod:
		g.bytes = make([]byte, n)
		g.oops = append([]value{{word: api.Oop(8*literals + 1)}}, slices.Repeat(s.specials[:1], literals)...)
	default:
		g.oops = slices.Repeat(s.specials[:1], n)
	}
	return g, api.OK
}

func (s *store) clone(v value) (*thing, api.Errno) {
	g := v.thing
	if g == nil {
		return nil, api.ErrHeapOop
	}
	if e := s.charge(g.size, g); e != api.OK {
		return nil, e
	}
	return &thing{class: g.class, format: g.format, oops: slices.Clone(g.oops), words: slices.Clone(g.words), bytes: slices.Clone(g.bytes), size: g.size, place: -1}, api.OK
}

// fits tells whether a thing may have the words of pins from a place on.
func (s *store) fits(place, size int) bool {
	for _, g := range s.pinned {
		if place < g.place+g.size && g.place < place+size {
			return false
		}
	}
	return place+size <= s.pins
}

func (s *store) pin(v value) (*thing, api.Errno) {
	g := v.thing
	if g == nil {
		return nil, api.ErrHeapOop
	}
	for place := 0; g.place < 0; place++ {
		if place > s.pins {
			return nil, api.ErrMemoryPins
		}
		if s.fits(place, g.size) {
			g.place = place
			s.pinned = append(s.pinned, g)
		}
	}
	return g, api.OK
}

// remake makes a thing whose header is good.
func (s *store) remake(at int, x api.Header, literals int) (*thing, api.Errno) {
	g := &thing{class: x.Class, format: x.Format, hash: x.Hash, size: 2 + x.Slots, place: at}
	switch x.Format {
	case api.FormatWords:
		g.words = make([]uint64, x.Slots)
	case api.FormatBytes:
		g.bytes = make([]byte, 8*x.Slots-x.Spare)
	case api.FormatMethod:
		g.oops = append([]value{{word: api.Oop(8*literals + 1)}}, make([]value, literals)...)
		g.bytes = make([]byte, 8*(x.Slots-1-literals)-x.Spare)
	default:
		g.oops = make([]value, x.Slots)
	}
	if s.count+g.size > s.bound {
		return nil, api.ErrMemoryFull
	}
	if at >= 0 {
		if !s.fits(at, g.size) {
			return nil, api.ErrMemoryPins
		}
		s.pinned = append(s.pinned, g)
	}
	s.count += g.size
	return g, api.OK
}

func (s *store) become(a, b []value) api.Errno {
	names := map[*thing]*thing{}
	for i := range min(len(a), len(b)) {
		names[a[i].thing], names[b[i].thing] = b[i].thing, a[i].thing
	}
	if _, is := names[nil]; is || len(a) != len(b) || len(names) < len(a)+len(b) {
		return api.ErrMemoryPairs
	}
	lists := s.roots()
	for _, g := range s.reached() {
		lists = append(lists, g.oops)
	}
	for _, l := range lists {
		for i, v := range l {
			if to, is := names[v.thing]; is {
				l[i].thing = to
			}
		}
	}
	return api.OK
}

func (s *store) setSlot(o value, i int, v value) api.Errno {
	g := o.thing
	switch {
	case g == nil:
		return api.ErrHeapOop
	case i < 0 || i >= len(g.oops):
		return api.ErrHeapIndex
	case g.format == api.FormatMethod && i == 0:
		return api.ErrHeapKind
	case !v.isStorable():
		return api.ErrArg
	}
	g.oops[i] = v
	return api.OK
}

func (s *store) setText(o value, at int, text string) api.Errno {
	g := o.thing
	switch {
	case g == nil:
		return api.ErrHeapOop
	case g.format < api.FormatBytes:
		return api.ErrHeapKind
	case at < 0 || at+len(text) > len(g.bytes):
		return api.ErrHeapIndex
	}
	copy(g.bytes[at:], text)
	return api.OK
}

func (s *store) setWord(o value, i int, w uint64) api.Errno {
	g := o.thing
	switch {
	case g == nil:
		return api.ErrHeapOop
	case g.format != api.FormatWords:
		return api.ErrHeapKind
	case i < 0 || i >= len(g.words):
		return api.ErrHeapIndex
	}
	g.words[i] = w
	return api.OK
}

func (s *store) setClass(o value, class int) api.Errno {
	switch {
	case o.thing == nil:
		return api.ErrHeapOop
	case class < 0 || class > 4095:
		return api.ErrArg
	}
	o.thing.class = class
	return api.OK
}

func (s *store) hash(o value) (int, api.Errno) {
	g := o.thing
	if g == nil {
		return 0, api.ErrHeapOop
	}
	if g.hash == 0 {
		s.given++
		g.hash = s.given
	}
	return g.hash, api.OK
}

func (s *store) setRoot(l []value, i int, v value) api.Errno {
	switch {
	case i < 0 || i >= len(l):
		return api.ErrHeapRoot
	case !v.isStorable():
		return api.ErrArg
	}
	l[i] = v
	return api.OK
}

func (s *store) push(v value) api.Errno {
	if !v.isStorable() {
		return api.ErrArg
	}
	s.stack = append(s.stack, v)
	return api.OK
}

func (s *store) pop() (value, api.Errno) {
	if len(s.stack) == 0 {
		return value{}, api.ErrHeapRoot
	}
	v := s.stack[len(s.stack)-1]
	s.stack = s.stack[:len(s.stack)-1]
	return v, api.OK
}

func (s *store) fired() value {
	if len(s.queue) == 0 {
		return value{}
	}
	v := s.queue[0]
	s.queue = slices.Clone(s.queue[1:])
	return v
}
