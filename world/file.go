package world

import (
	"slices"

	"palaver/api"
)

// maxRisked is how many unsynced writes may be kept in a crash: a bit of a number says it for each.
const maxRisked = 64

// file is a file's bytes. It does not know its name: it may lose it and be open still.
type file struct {
	bytes    []byte // what its handles see
	synced   []byte // without the unsynced writes
	unsynced []write
}

// write is a change of a file: either it empties the file, or it stores a text at an offset.
type write struct {
	order   int // how many writes the world had seen before
	empties bool
	at      int
	text    string
}

func isName(s string) bool {
	if len(s) < 1 || len(s) > api.MaxName {
		return false
	}
	for i := range len(s) {
		if !isNameByte(s[i]) {
			return false
		}
	}
	return true
}

func isNameByte(b byte) bool {
	switch {
	case b >= 'a' && b <= 'z', b >= 'A' && b <= 'Z', b >= '0' && b <= '9':
		return true
	case b == '.', b == '-', b == '_', b == '/':
		return true
	}
	return false
}

// settled is a file that has all its bytes synced. It keeps b.
func settled(b []byte) *file {
	return &file{bytes: b, synced: slices.Clone(b)}
}

// piece is what stands at a place, at most so many bytes. The place may lie behind the end.
func (f *file) piece(at, size int) string {
	rest := f.bytes[min(at, len(f.bytes)):]
	return string(rest[:min(size, len(rest))])
}

// sync makes the unsynced writes again in the synced bytes: a copy of all bytes would cost more than was written.
func (f *file) sync() {
	for _, c := range f.unsynced {
		f.synced = c.apply(f.synced)
	}
	f.unsynced = nil
}

// apply makes the write in bytes, and may use their memory.
func (c write) apply(b []byte) []byte {
	if c.empties {
		return nil
	}
	if more := c.at + len(c.text) - len(b); more > 0 {
		b = append(b, make([]byte, more)...)
	}
	copy(b[c.at:], c.text)
	return b
}

// change makes a write in a file.
func (w *World) change(f *file, c write) {
	c.order = w.writes
	w.writes++
	f.bytes = c.apply(f.bytes)
	f.unsynced = append(f.unsynced, c)
}

// risked are the file's unsynced writes that may be kept in a crash: what has so many ahead of it in its own file has as many in all.
func (f *file) risked() []write {
	return f.unsynced[:min(len(f.unsynced), maxRisked)]
}

// riskedOrders are the orders of such writes of all files that can be found by name, sorted. The place of one of them here is its number in a crash.
func (w *World) riskedOrders() []int {
	var orders []int
	for _, f := range w.files {
		for _, c := range f.risked() {
			orders = append(orders, c.order)
		}
	}
	slices.Sort(orders)
	return orders
}

// survivors are the bytes that a crash leaves, if it keeps the writes that have their bit.
func (f *file) survivors(which uint64, orders []int) []byte {
	b := slices.Clone(f.synced)
	for _, c := range f.risked() {
		// A number that has no bit shifts all bits out.
		number, _ := slices.BinarySearch(orders, c.order)
		if which>>number&1 == 1 {
			b = c.apply(b)
		}
	}
	return b
}
