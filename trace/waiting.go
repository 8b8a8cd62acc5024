package trace

import (
	pile "container/heap"
	"slices"
	"sort"

	"palaver/api"
)

// waiting are ephemerons whose keys do not live yet, in the order in which they were met. They are found by their keys: to look through all of them each time that a key may have come to live would take the square of their number.
type waiting struct {
	list  []api.Oop // 0: that one waits no longer
	byKey map[api.Oop][]int
	ready places // of those whose keys live by now
}

func (w *waiting) add(o, key api.Oop) {
	if w.byKey == nil {
		w.byKey = map[api.Oop][]int{}
	}
	w.byKey[key] = append(w.byKey[key], len(w.list))
	w.list = append(w.list, o)
}

// lives says that an object lives by now.
func (w *waiting) lives(key api.Oop) {
	for _, place := range w.byKey[key] {
		pile.Push(&w.ready, place)
	}
}

// look goes once through the list, takes out what is ready when it comes there, and lets it visit; whether there was anything. What becomes ready meanwhile ahead of that place is left for the next look.
func (w *waiting) look(visit func(api.Oop)) bool {
	var left []int
	at := -1
	for w.ready.Len() > 0 {
		place := pile.Pop(&w.ready).(int)
		if place < at {
			left = append(left, place)
			continue
		}
		at = place
		visit(w.list[at])
		w.list[at] = 0
	}
	for _, place := range left {
		pile.Push(&w.ready, place)
	}
	return at >= 0
}

// takeAll takes out all that wait.
func (w *waiting) takeAll() []api.Oop {
	l := slices.DeleteFunc(w.list, func(o api.Oop) bool { return o == 0 })
	*w = waiting{}
	return l
}

// places are numbers of which the least one is on top.
type places struct{ sort.IntSlice }

// Push appends a number, as package container/heap asks it.
func (p *places) Push(x any) { p.IntSlice = append(p.IntSlice, x.(int)) }

// Pop removes the last number, as package container/heap asks it.
func (p *places) Pop() any {
	last := len(p.IntSlice) - 1
	x := p.IntSlice[last]
	p.IntSlice = p.IntSlice[:last]
	return x
}
