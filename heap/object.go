package heap

import (
	"palaver/api"
	"palaver/shape"
	"palaver/words"
)

const byteBits = 8

// object is an object's header as it was, and its slots themselves.
type object struct {
	at    int
	head  api.Header
	slots []uint64
}

// object is the one that begins at a word.
func (h *Heap) object(at int) object {
	x, _ := words.Unpack(h.words[at], h.words[at+1])
	begin, end := at+shape.HeadWords, at+shape.Words(x)
	return object{at: at, head: x, slots: h.words[begin:end:end]}
}

// find is the object that an oop names.
func (h *Heap) find(o api.Oop) (object, api.Errno) {
	at, is := words.WordOf(o)
	if !is || !h.startsAt(at) {
		return object{}, api.ErrHeapOop
	}
	return h.object(at), api.OK
}

func (h *Heap) setHead(at int, x api.Header) {
	h.words[at], h.words[at+1], _ = words.Pack(x)
}

// oops are those slots that are oops.
func (b object) oops() []uint64 {
	n := 0
	switch b.head.Format {
	case api.FormatPointers, api.FormatWeak, api.FormatEphemeron:
		n = len(b.slots)
	case api.FormatMethod:
		literals, _ := words.SmallOf(api.Oop(b.slots[0]))
		n = 1 + int(literals)
	}
	return b.slots[:n:n]
}

// changeable are the oops without the one that counts a method's literals.
func (b object) changeable() []uint64 {
	l := b.oops()
	if b.head.Format == api.FormatMethod {
		return l[1:]
	}
	return l
}

// bytes are the slots that have bytes, and how many bytes these are.
func (b object) bytes() ([]uint64, int) {
	switch b.head.Format {
	case api.FormatBytes, api.FormatMethod:
		l := b.slots[len(b.oops()):]
		return l, len(l)*shape.SlotBytes - b.head.Spare
	}
	return nil, 0
}

// Head is an object's header.
func (h *Heap) Head(o api.Oop) (api.Header, api.Errno) {
	b, err := h.find(o)
	return b.head, err
}

// Oops is how many oops an object has.
func (h *Heap) Oops(o api.Oop) (int, api.Errno) {
	b, err := h.find(o)
	return len(b.oops()), err
}

// Bytes is how many bytes an object has.
func (h *Heap) Bytes(o api.Oop) (int, api.Errno) {
	b, err := h.find(o)
	_, n := b.bytes()
	return n, err
}

// Slot is one of an object's oops.
func (h *Heap) Slot(o api.Oop, i int) (api.Oop, api.Errno) {
	b, err := h.find(o)
	if err != api.OK {
		return 0, err
	}
	l := b.oops()
	if !isIndex(i, len(l)) {
		return 0, api.ErrHeapIndex
	}
	return api.Oop(l[i]), api.OK
}

// SetSlot lays another one there.
func (h *Heap) SetSlot(o api.Oop, i int, v api.Oop) api.Errno {
	b, err := h.find(o)
	if err != api.OK {
		return err
	}
	l := b.oops()
	if !isIndex(i, len(l)) {
		return api.ErrHeapIndex
	}
	if b.head.Format == api.FormatMethod && i == 0 {
		return api.ErrHeapKind
	}
	if !h.isStorable(v) {
		return api.ErrArg
	}
	l[i] = uint64(v)
	h.noteReference(o, v)
	return api.OK
}

// isStorable tells whether an oop may be laid into objects and roots.
func (h *Heap) isStorable(v api.Oop) bool {
	switch words.Tag(v) {
	case api.TagNone, api.TagSmall, api.TagChar:
		return true
	}
	return h.Is(v)
}

func isIndex(i, size int) bool {
	return i >= 0 && i < size
}

// byteOf is where one of an object's bytes stands: its slot, and how many bits lie below it.
func (h *Heap) byteOf(o api.Oop, i int) (*uint64, int, api.Errno) {
	b, err := h.find(o)
	if err != api.OK {
		return nil, 0, err
	}
	l, n := b.bytes()
	if !isIndex(i, n) {
		return nil, 0, api.ErrHeapIndex
	}
	return &l[i/shape.SlotBytes], i % shape.SlotBytes * byteBits, api.OK
}

// Byte is one of an object's bytes.
func (h *Heap) Byte(o api.Oop, i int) (byte, api.Errno) {
	slot, below, err := h.byteOf(o, i)
	if err != api.OK {
		return 0, err
	}
	return byte(*slot >> below), api.OK
}

// SetByte lays another one there.
func (h *Heap) SetByte(o api.Oop, i int, b byte) api.Errno {
	slot, below, err := h.byteOf(o, i)
	if err != api.OK {
		return err
	}
	const mask = 1<<byteBits - 1
	*slot = *slot&^(mask<<below) | uint64(b)<<below
	return api.OK
}

// wordOf is where one of an object's words stands.
func (h *Heap) wordOf(o api.Oop, i int) (*uint64, api.Errno) {
	b, err := h.find(o)
	if err != api.OK {
		return nil, err
	}
	if b.head.Format != api.FormatWords {
		return nil, api.ErrHeapKind
	}
	if !isIndex(i, len(b.slots)) {
		return nil, api.ErrHeapIndex
	}
	return &b.slots[i], api.OK
}

// Word is one of an object's words.
func (h *Heap) Word(o api.Oop, i int) (uint64, api.Errno) {
	slot, err := h.wordOf(o, i)
	if err != api.OK {
		return 0, err
	}
	return *slot, api.OK
}

// SetWord lays another one there.
func (h *Heap) SetWord(o api.Oop, i int, w uint64) api.Errno {
	slot, err := h.wordOf(o, i)
	if err != api.OK {
		return err
	}
	*slot = w
	return api.OK
}

// SetClass gives an object another class.
func (h *Heap) SetClass(o api.Oop, class int) api.Errno {
	b, err := h.find(o)
	if err != api.OK {
		return err
	}
	if !isIndex(class, api.MaxClasses) {
		return api.ErrArg
	}
	b.head.Class = class
	h.setHead(b.at, b.head)
	return api.OK
}

// SetFormat gives an object of oops another format of oops.
func (h *Heap) SetFormat(o api.Oop, f api.Format) api.Errno {
	b, err := h.find(o)
	if err != api.OK {
		return err
	}
	if !isAllOops(b.head.Format) || !isAllOops(f) {
		return api.ErrHeapKind
	}
	if f == api.FormatEphemeron && b.head.Slots == 0 {
		return api.ErrArg
	}
	b.head.Format = f
	h.setHead(b.at, b.head)
	return api.OK
}

func isAllOops(f api.Format) bool {
	switch f {
	case api.FormatPointers, api.FormatWeak, api.FormatEphemeron:
		return true
	}
	return false
}

// Hash is an object's identity hash.
func (h *Heap) Hash(o api.Oop) (int, api.Errno) {
	b, err := h.find(o)
	if err != api.OK {
		return 0, err
	}
	if b.head.Hash == 0 {
		b.head.Hash = h.given + 1
		h.given = (h.given + 1) % api.MaxHash
		h.setHead(b.at, b.head)
	}
	return b.head.Hash, api.OK
}
