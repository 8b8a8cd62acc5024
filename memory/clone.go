package memory

import (
	"palaver/api"
	"palaver/trace"
)

// Clone makes an object like another one: its class, format, slots, bytes.
func (m *Memory) Clone(o api.Oop) (api.Oop, api.Errno) {
	x, err := m.Head(o)
	if err != api.OK {
		return 0, err
	}
	return m.create(x, o, m.twin)
}

// twin makes an object in a space that is like another one. It looks at that one anew: a collection may have cleared its oops, or let it fire.
func (m *Memory) twin(sp api.Space, one api.Oop) (api.Oop, api.Errno) {
	x, _ := m.Head(one)
	o, err := m.unfilled(sp, one, x)
	if err != api.OK {
		return 0, err
	}
	switch x.Format {
	case api.FormatWords:
		for i := range x.Slots {
			w, _ := m.Word(one, i)
			m.SetWord(o, i, w)
		}
	case api.FormatMethod:
		m.copyOops(o, one)
		fallthrough
	case api.FormatBytes:
		s, _ := m.Text(one)
		m.SetText(o, 0, s)
	default:
		m.copyOops(o, one)
	}
	return o, api.OK
}

// unfilled makes an object in a space that has as many oops, words and bytes as another one, which has that header.
func (m *Memory) unfilled(sp api.Space, one api.Oop, x api.Header) (api.Oop, api.Errno) {
	n := x.Slots
	switch x.Format {
	case api.FormatMethod:
		oops, _ := m.Oops(one)
		bytes, _ := m.Bytes(one)
		return m.store.AllocMethod(sp, x.Class, oops-1, bytes)
	case api.FormatBytes:
		n, _ = m.Bytes(one)
	}
	return m.store.Alloc(sp, x.Class, x.Format, n)
}

// copyOops lays the oops of an object into one that has as many.
func (m *Memory) copyOops(o, one api.Oop) {
	for i, v := range trace.Oops(m.Heap(), one) {
		// That a method's first one is refused does no harm: both have as many literals.
		m.SetSlot(o, i, v)
	}
}
