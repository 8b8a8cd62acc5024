// Package shape tells which headers objects have, for the layer that makes objects and for those that ask ahead of that how many words they will take.
package shape

import (
	"palaver/api"
	"palaver/words"
)

// An object's header stands ahead of its slots; a slot is a word.
const (
	HeadWords = 2
	SlotBytes = 8
)

// Words is how many words an object with that header has.
func Words(x api.Header) int {
	return HeadWords + x.Slots
}

// Of is the header of an object of so many oops, words or bytes.
func Of(class int, f api.Format, n int) (api.Header, api.Errno) {
	if f == api.FormatMethod || n < 0 {
		return api.Header{}, api.ErrArg
	}
	x := api.Header{Class: class, Format: f, Slots: n}
	if f == api.FormatBytes {
		x.Slots, x.Spare = slotsOf(n)
	}
	return valid(x)
}

// OfMethod is the header of a method of so many literals and bytes.
func OfMethod(class, literals, bytes int) (api.Header, api.Errno) {
	// More literals than that would be too many of themselves, and their sum with the others might be no int.
	if literals < 0 || literals > api.MaxSlots || bytes < 0 {
		return api.Header{}, api.ErrArg
	}
	slots, spare := slotsOf(bytes)
	return valid(api.Header{Class: class, Format: api.FormatMethod, Spare: spare, Slots: 1 + literals + slots})
}

// slotsOf is how many slots so many bytes need, and how many bytes of the last one they leave.
func slotsOf(bytes int) (slots, spare int) {
	slots = bytes / SlotBytes
	if over := bytes % SlotBytes; over > 0 {
		return slots + 1, SlotBytes - over
	}
	return slots, 0
}

func valid(x api.Header) (api.Header, api.Errno) {
	if _, _, err := words.Pack(x); err != api.OK {
		return api.Header{}, api.ErrArg
	}
	return x, api.OK
}

// Suits tells whether an object that is made again may have that header and so many literals, which only a method has.
func Suits(x api.Header, literals int) bool {
	if _, err := valid(x); err != api.OK || x.Marked || x.Noted {
		return false
	}
	if x.Format != api.FormatMethod {
		return literals == 0
	}
	if literals < 0 || literals >= x.Slots {
		return false
	}
	// A method whose literals fill its slots has no bytes, and none to spare.
	return x.Spare == 0 || literals < x.Slots-1
}
