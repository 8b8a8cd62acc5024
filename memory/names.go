package memory

import (
	"slices"

	"palaver/api"
	"palaver/trace"
)

// Pinned tells whether one stays.
func (m *Memory) Pinned(o api.Oop) bool { return m.Space(o) == api.Pins }

// Pin lays an object where it stays; what it is called from then on.
func (m *Memory) Pin(o api.Oop) (api.Oop, api.Errno) {
	x, err := m.Head(o)
	if err != api.OK {
		return 0, err
	}
	if m.Pinned(o) {
		return o, api.OK
	}
	to, err := m.Copy(o, api.Pins, x.Age)
	if err != api.OK {
		return 0, api.ErrMemoryPins
	}
	if x.Noted {
		m.Note(to)
	}
	m.rename(map[api.Oop]api.Oop{o: to})
	m.Free(o)
	return to, api.OK
}

// Become lets each of some objects be the other one, wherever either is named.
func (m *Memory) Become(a, b []api.Oop) api.Errno {
	names, err := m.exchanged(a, b)
	if err == api.OK {
		m.rename(names)
	}
	return err
}

// exchanged are the names that objects and their counterparts have behind an exchange.
func (m *Memory) exchanged(a, b []api.Oop) (map[api.Oop]api.Oop, api.Errno) {
	if len(a) != len(b) {
		return nil, api.ErrMemoryPairs
	}
	names := map[api.Oop]api.Oop{}
	for i := range a {
		if !m.Is(a[i]) || !m.Is(b[i]) {
			return nil, api.ErrMemoryPairs
		}
		names[a[i]], names[b[i]] = b[i], a[i]
	}
	// What occurs twice has one entry only.
	if len(names) < 2*len(a) {
		return nil, api.ErrMemoryPairs
	}
	return names, api.OK
}

// rename gives objects other names wherever one is named, also in objects that no root reaches any more; what refers to a young one then is noted.
func (m *Memory) rename(names map[api.Oop]api.Oop) {
	name := func(o api.Oop) api.Oop {
		if to, is := names[o]; is {
			return to
		}
		return o
	}
	m.Replace(0, name)
	for _, o := range slices.Collect(trace.All(m.Heap())) {
		refersToYoung := false
		m.Replace(o, func(v api.Oop) api.Oop {
			v = name(v)
			refersToYoung = refersToYoung || trace.IsYoung(m.Heap(), v)
			return v
		})
		if refersToYoung {
			m.Note(o) // which refuses what is young itself
		}
	}
}
