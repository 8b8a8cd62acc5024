package largeint

import (
	"math"
	"math/bits"
)

// divided is the quotient by a number that is not zero, and the remainder.
func (n natural) divided(by natural) (quotient, remainder natural) {
	if len(n) < len(by) {
		return nil, n
	}
	// With the divisor's highest bit set, a word of the quotient is guessed from the highest words alone; the remainder is shifted back.
	shift := bits.LeadingZeros32(by[len(by)-1])
	rest, divisor := n.shiftedLeft(shift), by.shiftedLeft(shift).trimmed()
	quotient = make(natural, len(n)-len(by)+1)
	for k := len(quotient) - 1; k >= 0; k-- {
		quotient[k] = takeQuotient(rest[k:k+len(by)+1], divisor)
	}
	return quotient.trimmed(), rest.shiftedRight(shift)
}

// takeQuotient divides words by a divisor whose highest bit is set, of which there is one less and for which the quotient is one word; it leaves the remainder in them.
func takeQuotient(rest, divisor natural) uint32 {
	last := len(divisor)
	guess := guessQuotient(rest[last], rest[last-1], divisor[last-1])
	borrow := takeProduct(rest[:last], divisor, guess)
	rest[last], borrow = bits.Sub32(rest[last], borrow, 0)
	// The guess leaves out the lower words of the divisor: it is never too small, and too great by two at most.
	for borrow > 0 {
		guess--
		carry := addInto(rest, divisor)
		borrow -= carry
	}
	return guess
}

// guessQuotient divides two words by one, or is the greatest word if the quotient is more than that.
func guessQuotient(high, low, by uint32) uint32 {
	if high >= by {
		return math.MaxUint32
	}
	guess, _ := bits.Div32(high, low, by)
	return guess
}

// commonDivisor is the greatest one of two numbers; zero, if both are zero.
func commonDivisor(n, m natural) natural {
	for len(m) > 0 {
		_, rest := n.divided(m)
		n, m = m, rest
	}
	return n
}
