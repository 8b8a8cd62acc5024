package scavenge_test

import (
	"maps"
	"reflect"
	"slices"
	"testing"

	"palaver/api"
)

// seen is an object as the heap shows it.
type seen struct {
	Space api.Space
	Head  api.Header
	Oops  []api.Oop
	Rest  []uint64
}

func (s seen) size() int { return 2 + s.Head.Slots }

func (s seen) isYoung() bool {
	return s.Space == api.Eden || s.Space == api.Past || s.Space == api.Future
}

// picture is all that a heap shows.
type picture struct {
	Sizes    [6]int     // of the spaces
	Begins   [6]api.Oop // their first addresses
	Rooms    [6]int
	Useds    [6]int
	Walks    [6][]api.Oop
	Objects  map[api.Oop]seen
	Forwards map[api.Oop]api.Oop
	Noted    []api.Oop
	Roots    []api.Oop
	Depth    int
	Queued   int
	Given    int
}

// pictureOf looks at each word of the memory.
func pictureOf(r *trial) picture {
	r.Helper()
	h := r.h
	p := picture{
		Objects:  map[api.Oop]seen{},
		Forwards: map[api.Oop]api.Oop{},
		Noted:    slices.AppendSeq([]api.Oop{}, h.Noted()),
		Roots:    slices.Collect(h.Roots()),
		Depth:    h.Depth(),
		Queued:   h.Queued(),
		Given:    h.Given(),
	}
	order := []api.Space{api.Eden, api.Past, api.Future, api.Old, api.Pins}
	if r.flips%2 == 1 {
		order[1], order[2] = order[2], order[1]
	}
	end := 2
	for i, size := range []int{r.z.Eden, r.z.Survivor, r.z.Survivor, r.z.Bound + r.z.Eden + 2*r.z.Survivor, r.z.Pins} {
		sp := order[i]
		p.Sizes[sp], p.Begins[sp] = size, api.Oop(8*end)
		p.Rooms[sp], p.Useds[sp] = h.Room(sp), h.Used(sp)
		p.Walks[sp] = slices.AppendSeq([]api.Oop{}, h.Walk(sp))
		end += size
	}
	for at := range end {
		o := api.Oop(8 * at)
		if to, is := h.Forwarded(o); is {
			p.Forwards[o] = to
		}
		if h.Is(o) {
			p.Objects[o] = seen{h.Space(o), r.head(o), oopsOf(r.T, h, o), restOf(h, o)}
		}
	}
	return p
}

func samePicture(t *testing.T, got, want picture) {
	t.Helper()
	a, b := reflect.ValueOf(got), reflect.ValueOf(want)
	for i := range a.NumField() {
		if x, y := a.Field(i).Interface(), b.Field(i).Interface(); !reflect.DeepEqual(x, y) {
			t.Errorf("%s:\n%+v\nnot\n%+v", a.Type().Field(i).Name, x, y)
		}
	}
}

// after is what a run makes of a picture. It takes the chapter's steps one after the other for all objects at once: what is found, where that goes, what the references become, what is noted.
func (p picture) after(tenure int) (picture, api.Report, api.Errno) {
	if tenure < 0 || tenure > 15 {
		return p, api.Report{}, api.ErrArg
	}
	if p.Useds[api.Eden]+p.Useds[api.Past] > p.Rooms[api.Old] {
		return p, api.Report{}, api.ErrScavengeRoom
	}
	found := p.found()
	q := p
	q.Objects = maps.Clone(p.Objects)
	goals := map[api.Oop]api.Oop{}
	report := api.Report{Kept: len(found), Freed: len(p.Walks[api.Eden]) + len(p.Walks[api.Past]) - len(found)}
	for _, o := range found {
		s := p.Objects[o]
		s.Space = api.Old
		s.Head.Marked = false
		if s.Head.Age < tenure && s.size() <= q.Rooms[api.Future] {
			s.Space = api.Future
			s.Head.Age++
		} else {
			report.Tenured++
		}
		goals[o] = q.Begins[s.Space] + api.Oop(8*(q.Sizes[s.Space]-q.Rooms[s.Space]))
		q.Objects[goals[o]] = s
		q.Rooms[s.Space] -= s.size()
	}
	q.rename(found, goals)
	q.note(found, goals)
	q.flip()
	return q, report, api.OK
}

// found are the objects that are copied, in this order.
func (p picture) found() []api.Oop {
	var l []api.Oop
	meet := func(oops []api.Oop) {
		for _, v := range oops {
			_, forwarded := p.Forwards[v]
			sp := p.Objects[v].Space
			if !forwarded && (sp == api.Eden || sp == api.Past) && !slices.Contains(l, v) {
				l = append(l, v)
			}
		}
	}
	meet(p.Roots)
	for _, o := range p.Noted {
		meet(p.Objects[o].Oops)
	}
	for i := 0; i < len(l); i++ {
		meet(p.Objects[l[i]].Oops)
	}
	return l
}

// rename replaces the references that are scanned.
func (p *picture) rename(found []api.Oop, goals map[api.Oop]api.Oop) {
	renamed := func(l []api.Oop) []api.Oop {
		l = slices.Clone(l)
		for i, v := range l {
			if to, is := p.Forwards[v]; is {
				l[i] = to
			} else if to, is := goals[v]; is {
				l[i] = to
			}
		}
		return l
	}
	p.Roots = renamed(p.Roots)
	scanned := slices.Clone(p.Noted)
	for _, o := range found {
		scanned = append(scanned, goals[o])
	}
	for _, o := range scanned {
		s := p.Objects[o]
		s.Oops = renamed(s.Oops)
		p.Objects[o] = s
	}
}

// note adds the copies that are noted, and takes out what no longer refers to anything young.
func (p *picture) note(found []api.Oop, goals map[api.Oop]api.Oop) {
	maybe := slices.Clone(p.Noted)
	for _, o := range found {
		if p.Objects[goals[o]].Space == api.Old {
			maybe = append(maybe, goals[o])
		}
	}
	p.Noted = []api.Oop{}
	for _, o := range maybe {
		s := p.Objects[o]
		// Only what is in the future space is young behind the flip.
		s.Head.Noted = slices.ContainsFunc(s.Oops, func(v api.Oop) bool { return p.Objects[v].Space == api.Future })
		if s.Head.Noted {
			p.Noted = append(p.Noted, o)
		}
		p.Objects[o] = s
	}
}

func (p *picture) flip() {
	emptied := func(o api.Oop) bool {
		for _, sp := range []api.Space{api.Eden, api.Past} {
			if o >= p.Begins[sp] && o < p.Begins[sp]+api.Oop(8*p.Sizes[sp]) {
				return true
			}
		}
		return false
	}
	p.Forwards = maps.Clone(p.Forwards)
	maps.DeleteFunc(p.Forwards, func(o, _ api.Oop) bool { return emptied(o) })
	maps.DeleteFunc(p.Objects, func(o api.Oop, _ seen) bool { return emptied(o) })
	p.Rooms[api.Eden] = p.Sizes[api.Eden]
	p.Rooms[api.Past], p.Rooms[api.Future] = p.Rooms[api.Future], p.Sizes[api.Future]
	p.Begins[api.Past], p.Begins[api.Future] = p.Begins[api.Future], p.Begins[api.Past]
	for _, sp := range allSpaces {
		p.Useds[sp], p.Walks[sp] = 0, []api.Oop{}
	}
	for _, o := range slices.Sorted(maps.Keys(p.Objects)) {
		s := p.Objects[o]
		if s.Space == api.Future {
			s.Space = api.Past
		}
		p.Objects[o] = s
		p.Useds[s.Space] += s.size()
		p.Walks[s.Space] = append(p.Walks[s.Space], o)
	}
}
