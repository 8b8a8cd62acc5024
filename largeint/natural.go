package largeint

import (
	"cmp"
	"math/bits"
	"slices"
)

const (
	digitBits  = 8
	wordBits   = 32
	wordDigits = wordBits / digitBits
)

// natural is a number without a sign: its words, the lowest first, the last one not 0. Its functions leave their arguments as they are, but those that say otherwise.
type natural []uint32

func naturalOf(n uint64) natural {
	return natural{uint32(n), uint32(n >> wordBits)}.trimmed()
}

// wordsOf combines digits of which the last one is not 0.
func wordsOf(digits string) natural {
	n := make(natural, (len(digits)+wordDigits-1)/wordDigits)
	for k := range len(digits) {
		n[k/wordDigits] |= uint32(digits[k]) << (k % wordDigits * digitBits)
	}
	return n
}

// digits takes a number apart again.
func (n natural) digits() string {
	l := make([]byte, (n.bits()+digitBits-1)/digitBits)
	for k := range l {
		l[k] = byte(n[k/wordDigits] >> (k % wordDigits * digitBits))
	}
	return string(l)
}

// trimmed is words without the zeros at their end.
func (n natural) trimmed() natural {
	for len(n) > 0 && n[len(n)-1] == 0 {
		n = n[:len(n)-1]
	}
	return n
}

// low64 is a number of at most 64 bits.
func (n natural) low64() uint64 {
	low := uint64(0)
	for k, w := range n {
		low |= uint64(w) << (k * wordBits)
	}
	return low
}

func (n natural) bits() int {
	if len(n) == 0 {
		return 0
	}
	return (len(n)-1)*wordBits + bits.Len32(n[len(n)-1])
}

func (n natural) compare(m natural) int {
	if c := cmp.Compare(len(n), len(m)); c != 0 {
		return c
	}
	for k := len(n) - 1; k >= 0; k-- {
		if c := cmp.Compare(n[k], m[k]); c != 0 {
			return c
		}
	}
	return 0
}

func (n natural) plus(m natural) natural {
	if len(n) < len(m) {
		n, m = m, n
	}
	sum := make(natural, len(n)+1)
	copy(sum, n)
	sum[len(n)] = addInto(sum[:len(n)], m)
	return sum.trimmed()
}

// minus takes a number away that is not greater.
func (n natural) minus(m natural) natural {
	rest := slices.Clone(n)
	takeFrom(rest, m)
	return rest.trimmed()
}

func (n natural) times(m natural) natural {
	product := make(natural, len(n)+len(m))
	for k, w := range n {
		product[k+len(m)] = addProduct(product[k:k+len(m)], m, w)
	}
	return product.trimmed()
}

// shiftedLeft has one word more than needed, which may be 0.
func (n natural) shiftedLeft(by int) natural {
	whole, part := by/wordBits, by%wordBits
	l := make(natural, whole+len(n)+1)
	for k, w := range n {
		l[whole+k] |= w << part
		l[whole+k+1] = w >> (wordBits - part)
	}
	return l
}

// shiftedRight is cut down.
func (n natural) shiftedRight(by int) natural {
	whole, part := min(by/wordBits, len(n)), by%wordBits
	l := make(natural, len(n)-whole)
	for k, w := range n[whole:] {
		l[k] = w >> part
		if k > 0 {
			l[k-1] |= w << (wordBits - part)
		}
	}
	return l.trimmed()
}

// addInto adds a number to words, of which there are at least as many, and tells what they do not hold: 0 or 1.
func addInto(l, n natural) uint32 {
	carry := uint32(0)
	for k, w := range n {
		l[k], carry = bits.Add32(l[k], w, carry)
	}
	for k := len(n); k < len(l) && carry > 0; k++ {
		l[k], carry = bits.Add32(l[k], 0, carry)
	}
	return carry
}

// takeFrom takes a number away from words that are not less than it.
func takeFrom(l, n natural) {
	borrow := uint32(0)
	for k, w := range n {
		l[k], borrow = bits.Sub32(l[k], w, borrow)
	}
	for k := len(n); k < len(l) && borrow > 0; k++ {
		l[k], borrow = bits.Sub32(l[k], 0, borrow)
	}
}

// addProduct adds a number times a word to as many words, and tells what they do not hold.
func addProduct(l, n natural, by uint32) uint32 {
	carry, c := uint32(0), uint32(0)
	for k, w := range n {
		high, low := bits.Mul32(w, by)
		low, c = bits.Add32(low, carry, 0)
		high += c
		l[k], c = bits.Add32(l[k], low, 0)
		carry = high + c
	}
	return carry
}

// takeProduct takes a number times a word away from as many words, and tells what they lack.
func takeProduct(l, n natural, by uint32) uint32 {
	borrow, c := uint32(0), uint32(0)
	for k, w := range n {
		high, low := bits.Mul32(w, by)
		low, c = bits.Add32(low, borrow, 0)
		high += c
		l[k], c = bits.Sub32(l[k], low, 0)
		borrow = high + c
	}
	return borrow
}
