package compact_test

import (
	"maps"
	"reflect"
	"slices"
	"testing"

	"palaver/api"
)

// seen is an object as the heap shows it.
type seen struct {
	Space api.Space
	Head  api.Header
	Oops  []api.Oop
	Rest  []uint64
}

func (s seen) size() int { return 2 + s.Head.Slots }

func (s seen) isYoung() bool {
	return s.Space == api.Eden || s.Space == api.Past || s.Space == api.Future
}

// picture is all that a heap shows.
type picture struct {
	Sizes    [6]int     // of the spaces
	Begins   [6]api.Oop // their first addresses
	Rooms    [6]int
	Useds    [6]int
	Walks    [6][]api.Oop
	Objects  map[api.Oop]seen
	Forwards map[api.Oop]api.Oop
	Noted    []api.Oop
	Roots    []api.Oop
	Depth    int
	Queued   int
	Given    int
}

// pictureOf looks at each word of the memory.
func pictureOf(r *trial) picture {
	r.Helper()
	h := r.h
	p := picture{
		Objects:  map[api.Oop]seen{},
		Forwards: map[api.Oop]api.Oop{},
		Noted:    slices.AppendSeq([]api.Oop{}, h.Noted()),
		Roots:    slices.Collect(h.Roots()),
		Depth:    h.Depth(),
		Queued:   h.Queued(),
		Given:    h.Given(),
	}
	order := []api.Space{api.Eden, api.Past, api.Future, api.Old, api.Pins}
	if r.flips%2 == 1 {
		order[1], order[2] = order[2], order[1]
	}
	end := 2
	for i, size := range []int{r.z.Eden, r.z.Survivor, r.z.Survivor, r.z.Bound + r.z.Eden + 2*r.z.Survivor, r.z.Pins} {
		sp := order[i]
		p.Sizes[sp], p.Begins[sp] = size, api.Oop(8*end)
		p.Rooms[sp], p.Useds[sp] = h.Room(sp), h.Used(sp)
		p.Walks[sp] = slices.AppendSeq([]api.Oop{}, h.Walk(sp))
		end += size
	}
	for at := range end {
		o := api.Oop(8 * at)
		if to, is := h.Forwarded(o); is {
			p.Forwards[o] = to
		}
		if h.Is(o) {
			p.Objects[o] = seen{h.Space(o), r.head(o), oopsOf(r.T, h, o), restOf(h, o)}
		}
	}
	return p
}

func samePicture(t *testing.T, got, want picture) {
	t.Helper()
	a, b := reflect.ValueOf(got), reflect.ValueOf(want)
	for i := range a.NumField() {
		if x, y := a.Field(i).Interface(), b.Field(i).Interface(); !reflect.DeepEqual(x, y) {
			t.Errorf("%s:\n%+v\nnot\n%+v", a.Type().Field(i).Name, x, y)
		}
	}
}

// order are all objects: by their spaces, and in these by their addresses.
func (p picture) order() []api.Oop {
	var l []api.Oop
	for _, sp := range allSpaces {
		l = append(l, p.Walks[sp]...)
	}
	return l
}

// change makes an object another one; the picture that it was taken from keeps its own.
func (p picture) change(o api.Oop, f func(s *seen)) {
	s := p.Objects[o]
	s.Oops = slices.Clone(s.Oops)
	f(&s)
	p.Objects[o] = s
}

// after is what a run makes of a picture.
func (p picture) after() (picture, api.Report) {
	q := p
	q.Objects = maps.Clone(p.Objects)
	q.Roots, q.Noted = slices.Clone(p.Roots), slices.Clone(p.Noted)
	living, fired := q.trace()
	report := api.Report{Kept: len(living), Freed: len(p.Objects) - len(living)}
	for _, o := range fired {
		q.change(o, func(s *seen) { s.Head.Format = api.FormatPointers })
	}
	report.Cleared = q.clear(living)
	for o := range p.Objects {
		if !slices.Contains(living, o) {
			delete(q.Objects, o)
		}
	}
	isGone := func(o api.Oop) bool { return !slices.Contains(living, o) }
	q.Noted = slices.DeleteFunc(q.Noted, isGone)
	goals := q.goals()
	for from, to := range goals {
		if from != to {
			report.Moved++
		}
	}
	q.rename(goals)
	q.settle()
	for _, o := range fired {
		report.Fired = append(report.Fired, renamed(goals, o))
	}
	return q, report
}

// trace is what lives, as the chapter tells it, step by step, looking through all that waits each time.
func (p picture) trace() (queue, fired []api.Oop) {
	living := map[api.Oop]bool{}
	visit := func(l []api.Oop) {
		for _, v := range l {
			if _, is := p.Objects[v]; is && !living[v] {
				living[v] = true
				queue = append(queue, v)
			}
		}
	}
	waits := func(o api.Oop) bool {
		key := p.Objects[o].Oops[0]
		_, is := p.Objects[key]
		return is && !living[key]
	}
	visit(p.Roots)
	var waiting []api.Oop
	for next := 0; ; {
		for ; next < len(queue); next++ {
			o := queue[next]
			switch f := p.Objects[o].Head.Format; {
			case f == api.FormatEphemeron && waits(o):
				waiting = append(waiting, o)
			case f == api.FormatEphemeron || f == api.FormatPointers || f == api.FormatMethod:
				visit(p.Objects[o].Oops)
			}
		}
		var still []api.Oop
		for _, o := range waiting {
			if waits(o) {
				still = append(still, o)
			} else {
				visit(p.Objects[o].Oops)
			}
		}
		switch {
		case len(still) < len(waiting):
			waiting = still
		case len(still) > 0:
			for _, o := range still {
				visit(p.Objects[o].Oops)
			}
			fired = append(fired, still...)
			waiting = nil
		default:
			return queue, fired
		}
	}
}

// mayStand tells whether SetSlot and Check take a word.
func (p picture) mayStand(v api.Oop) bool {
	_, is := p.Objects[v]
	return is || v == 0 || v%8 == 1 || v%8 == 2 && v/8 <= api.MaxChar
}

// clear clears the weak oops; how many.
func (p *picture) clear(living []api.Oop) int {
	cleared := 0
	for _, o := range p.order() {
		if p.Objects[o].Head.Format != api.FormatWeak || !slices.Contains(living, o) {
			continue
		}
		for i, v := range p.Objects[o].Oops {
			if _, is := p.Objects[v]; !is || slices.Contains(living, v) {
				continue
			}
			cleared++
			nought := p.Roots[0]
			if !p.mayStand(nought) {
				continue
			}
			p.change(o, func(s *seen) {
				s.Oops[i] = nought
				if p.Objects[nought].isYoung() && !s.isYoung() && !s.Head.Noted {
					s.Head.Noted = true
					p.Noted = append(p.Noted, o)
				}
			})
		}
	}
	return cleared
}

// goals are where the old objects go.
func (p picture) goals() map[api.Oop]api.Oop {
	l := map[api.Oop]api.Oop{}
	at := p.Begins[api.Old]
	for _, o := range p.Walks[api.Old] {
		if s, is := p.Objects[o]; is {
			l[o] = at
			at += api.Oop(8 * s.size())
		}
	}
	return l
}

func renamed(goals map[api.Oop]api.Oop, v api.Oop) api.Oop {
	if to, is := goals[v]; is {
		return to
	}
	return v
}

// rename moves the old objects, and renames what refers to them.
func (p *picture) rename(goals map[api.Oop]api.Oop) {
	objects := map[api.Oop]seen{}
	for o := range p.Objects {
		p.change(o, func(s *seen) {
			s.Head.Marked = false
			for i, v := range s.Oops {
				s.Oops[i] = renamed(goals, v)
			}
		})
		objects[renamed(goals, o)] = p.Objects[o]
	}
	p.Objects = objects
	for i, v := range p.Roots {
		p.Roots[i] = renamed(goals, v)
	}
	for i, o := range p.Noted {
		p.Noted[i] = renamed(goals, o)
	}
	before := p.Forwards
	p.Forwards = map[api.Oop]api.Oop{}
	for from, to := range before {
		if from < p.Begins[api.Old] || from >= p.Begins[api.Pins] {
			p.Forwards[from] = renamed(goals, to)
		}
	}
}

// settle counts what is left in each space.
func (p *picture) settle() {
	for _, sp := range allSpaces {
		p.Useds[sp], p.Walks[sp] = 0, []api.Oop{}
	}
	p.Rooms[api.Pins] = 0
	free := p.Begins[api.Pins] // where the words begin that no object has
	end := func(at api.Oop) {
		p.Rooms[api.Pins] = max(p.Rooms[api.Pins], int(at-free)/8)
	}
	for _, o := range slices.Sorted(maps.Keys(p.Objects)) {
		s := p.Objects[o]
		p.Useds[s.Space] += s.size()
		p.Walks[s.Space] = append(p.Walks[s.Space], o)
		if s.Space == api.Pins {
			end(o)
			free = o + api.Oop(8*s.size())
		}
	}
	end(p.Begins[api.Pins] + api.Oop(8*p.Sizes[api.Pins]))
	p.Rooms[api.Old] = p.Sizes[api.Old] - p.Useds[api.Old]
}

// check is what Check tells of a picture.
func (p picture) check() (api.Errno, api.Oop) {
	for _, v := range p.Roots {
		if !p.mayStand(v) {
			return api.ErrHeapRoot, 0
		}
	}
	for _, o := range p.order() {
		s := p.Objects[o]
		isNone := func(v api.Oop) bool { return !p.mayStand(v) }
		isYoung := func(v api.Oop) bool { return p.Objects[v].isYoung() }
		switch {
		case slices.ContainsFunc(s.Oops, isNone):
			return api.ErrHeapOop, o
		case !s.isYoung() && !s.Head.Noted && slices.ContainsFunc(s.Oops, isYoung):
			return api.ErrHeapKind, o
		case s.Head.Marked:
			return api.ErrArg, o
		}
	}
	return api.OK, 0
}
