package graph_test

import (
	"encoding/binary"
	"reflect"
	"slices"
	"testing"

	"palaver/api"
)

// seen is an object as the heap shows it.
type seen struct {
	Space api.Space
	Head  api.Header
	Oops  []api.Oop
	Rest  []uint64
}

// picture is all that a heap shows.
type picture struct {
	Sizes    [6]int     // of the spaces
	Begins   [6]api.Oop // their first addresses
	Rooms    [6]int
	Useds    [6]int
	Walks    [6][]api.Oop
	Objects  map[api.Oop]seen
	Forwards map[api.Oop]api.Oop
	Noted    []api.Oop
	Roots    []api.Oop
	Depth    int
	Queued   int
	Given    int
}

// pictureOf looks at each word of the memory.
func pictureOf(r *trial) picture {
	r.Helper()
	h := r.h
	p := picture{
		Objects:  map[api.Oop]seen{},
		Forwards: map[api.Oop]api.Oop{},
		Noted:    slices.AppendSeq([]api.Oop{}, h.Noted()),
		Roots:    slices.Collect(h.Roots()),
		Depth:    h.Depth(),
		Queued:   h.Queued(),
		Given:    h.Given(),
	}
	order := []api.Space{api.Eden, api.Past, api.Future, api.Old, api.Pins}
	if r.flips%2 == 1 {
		order[1], order[2] = order[2], order[1]
	}
	end := 2
	for i, size := range []int{r.z.Eden, r.z.Survivor, r.z.Survivor, r.z.Bound + r.z.Eden + 2*r.z.Survivor, r.z.Pins} {
		sp := order[i]
		p.Sizes[sp], p.Begins[sp] = size, api.Oop(8*end)
		p.Rooms[sp], p.Useds[sp] = h.Room(sp), h.Used(sp)
		p.Walks[sp] = slices.AppendSeq([]api.Oop{}, h.Walk(sp))
		end += size
	}
	for at := range end {
		o := api.Oop(8 * at)
		if to, is := h.Forwarded(o); is {
			p.Forwards[o] = to
		}
		if h.Is(o) {
			p.Objects[o] = seen{h.Space(o), r.head(o), oopsOf(r.T, h, o), restOf(h, o)}
		}
	}
	return p
}

func samePicture(t *testing.T, got, want picture) {
	t.Helper()
	a, b := reflect.ValueOf(got), reflect.ValueOf(want)
	for i := range a.NumField() {
		if x, y := a.Field(i).Interface(), b.Field(i).Interface(); !reflect.DeepEqual(x, y) {
			t.Errorf("%s:\n%+v\nnot\n%+v", a.Type().Field(i).Name, x, y)
		}
	}
}

// reached are the objects that some words refer to, over the oops of all objects whose classes are no leaves.
func (p picture) reached(from []api.Oop, leaves ...int) []api.Oop {
	var l []api.Oop
	visit := func(oops []api.Oop) {
		for _, v := range oops {
			if _, is := p.Objects[v]; is && !slices.Contains(l, v) {
				l = append(l, v)
			}
		}
	}
	visit(from)
	for i := 0; i < len(l); i++ {
		if s := p.Objects[l[i]]; !slices.Contains(leaves, s.Head.Class) {
			visit(s.Oops)
		}
	}
	return l
}

// nameIn is the name of a word, if those are the objects.
func nameIn(l []api.Oop, v api.Oop) uint64 {
	switch i := slices.Index(l, v); {
	case i >= 0:
		return uint64(8 * (i + 1))
	case v == 0, v%8 == 1, v%8 == 2 && v/8 <= 2097151:
		return uint64(v)
	}
	return 4
}

// tell is an object whose hash is given.
func (s seen) tell(hash int, l []api.Oop) []uint64 {
	x := s.Head
	told := []uint64{uint64(x.Class + 4096*int(x.Format) + 32768*x.Spare + 262144*hash), uint64(x.Slots)}
	for _, v := range s.Oops {
		told = append(told, nameIn(l, v))
	}
	if x.Format == api.FormatWords {
		return append(told, s.Rest...)
	}
	for slot := range slices.Chunk(s.Rest, 8) {
		b := make([]byte, 8)
		for i, w := range slot {
			b[i] = byte(w)
		}
		told = append(told, binary.LittleEndian.Uint64(b))
	}
	return told
}

func (p picture) form() []uint64 {
	l := p.reached(p.Roots)
	told := []uint64{uint64(len(l)), uint64(p.Depth), uint64(p.Queued)}
	for _, v := range p.Roots {
		told = append(told, nameIn(l, v))
	}
	for _, o := range l {
		s := p.Objects[o]
		told = append(told, s.tell(s.Head.Hash, l)...)
	}
	return told
}

func (p picture) from(o api.Oop, leaves []int) []uint64 {
	l := p.reached([]api.Oop{o}, leaves...)
	told := []uint64{uint64(len(l)), nameIn(l, o)}
	for _, o := range l {
		s := p.Objects[o]
		if slices.Contains(leaves, s.Head.Class) {
			told = append(told, uint64(s.Head.Class+4096), 0)
		} else {
			told = append(told, s.tell(0, l)...)
		}
	}
	return told
}

// strong is what lives, as chapter 6 tells it, step by step, looking through all that waits each time; and what fires.
func (p picture) strong() (queue, fired []api.Oop) {
	living := map[api.Oop]bool{}
	visit := func(l []api.Oop) {
		for _, v := range l {
			if _, is := p.Objects[v]; is && !living[v] {
				living[v] = true
				queue = append(queue, v)
			}
		}
	}
	waits := func(o api.Oop) bool {
		key := p.Objects[o].Oops[0]
		_, is := p.Objects[key]
		return is && !living[key]
	}
	visit(p.Roots)
	var waiting []api.Oop
	for next := 0; ; {
		for ; next < len(queue); next++ {
			o := queue[next]
			switch f := p.Objects[o].Head.Format; {
			case f == api.FormatEphemeron && waits(o):
				waiting = append(waiting, o)
			case f == api.FormatEphemeron || f == api.FormatPointers || f == api.FormatMethod:
				visit(p.Objects[o].Oops)
			}
		}
		var still []api.Oop
		for _, o := range waiting {
			if waits(o) {
				still = append(still, o)
			} else {
				visit(p.Objects[o].Oops)
			}
		}
		switch {
		case len(still) < len(waiting):
			waiting = still
		case len(still) > 0:
			for _, o := range still {
				visit(p.Objects[o].Oops)
			}
			fired = append(fired, still...)
			waiting = nil
		default:
			return queue, fired
		}
	}
}
