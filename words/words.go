// Package words is layer 1: which words are oops, and how an object's header lies in two words.
package words

import "palaver/api"

// The lowest bits of an oop tell what it is, the others hold its number.
const (
	markBits = 3
	markMask = 1<<markBits - 1

	markObject = 0
	markSmall  = 1
	markChar   = 2
)

// An object's address stays below 2^31, so that its word stays below 2^28.
const (
	addressBits = 31
	maxWord     = 1<<(addressBits-markBits) - 1
)

// Small is a SmallInteger as an oop; false: it does not fit.
func Small(n int64) (api.Oop, bool) {
	if n < api.MinSmall || n > api.MaxSmall {
		return 0, false
	}
	return api.Oop(n)<<markBits | markSmall, true
}

// Char is a Character.
func Char(code int) (api.Oop, bool) {
	if code < 0 || code > api.MaxChar {
		return 0, false
	}
	return api.Oop(code)<<markBits | markChar, true
}

// Object is an address.
func Object(word int) (api.Oop, bool) {
	if word < 1 || word > maxWord {
		return 0, false
	}
	return api.Oop(word)<<markBits | markObject, true
}

// Tag is what an oop is.
func Tag(o api.Oop) api.Tag {
	if o == 0 {
		return api.TagNone
	}
	number := o >> markBits
	switch o & markMask {
	case markSmall:
		return api.TagSmall
	case markChar:
		if number <= api.MaxChar {
			return api.TagChar
		}
	case markObject:
		if number <= maxWord {
			return api.TagObject
		}
	}
	return api.TagBad
}

// SmallOf is a SmallInteger's value.
func SmallOf(o api.Oop) (int64, bool) {
	if Tag(o) != api.TagSmall {
		return 0, false
	}
	// The shift must be a signed one, so that the highest bit stays the sign.
	return int64(o) >> markBits, true
}

// CharOf is a Character's code.
func CharOf(o api.Oop) (int, bool) {
	if Tag(o) != api.TagChar {
		return 0, false
	}
	return int(o >> markBits), true
}

// WordOf is the place of an object's first word.
func WordOf(o api.Oop) (int, bool) {
	if Tag(o) != api.TagObject {
		return 0, false
	}
	return int(o >> markBits), true
}
