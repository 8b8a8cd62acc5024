package largeint

import (
	"math/bits"

	"palaver/api"
)

// signed is a number with its sign; zero has none.
type signed struct {
	neg  bool
	size natural
}

func signedOf(a api.Large) signed {
	return signed{a.Neg, wordsOf(a.Digits)}
}

// withSign is a number that has a sign unless it is zero.
func withSign(neg bool, size natural) signed {
	return signed{neg && len(size) > 0, size}
}

func (n signed) large() api.Large {
	return api.Large{Neg: n.neg, Digits: n.size.digits()}
}

func (n signed) opposite() signed {
	return withSign(!n.neg, n.size)
}

func (n signed) compare(m signed) int {
	switch {
	case n.neg && m.neg:
		return m.size.compare(n.size)
	case n.neg:
		return -1
	case m.neg:
		return 1
	}
	return n.size.compare(m.size)
}

func (n signed) plus(m signed) signed {
	switch {
	case n.neg == m.neg:
		return withSign(n.neg, n.size.plus(m.size))
	case n.size.compare(m.size) < 0:
		return withSign(m.neg, m.size.minus(n.size))
	}
	return withSign(n.neg, n.size.minus(m.size))
}

func (n signed) minus(m signed) signed {
	return n.plus(m.opposite())
}

func (n signed) times(m signed) signed {
	return withSign(n.neg != m.neg, n.size.times(m.size))
}

// divided is the quotient, cut towards zero, by a number that is not zero, and the remainder.
func (n signed) divided(by signed) (quotient, remainder signed) {
	q, r := n.size.divided(by.size)
	return withSign(n.neg != by.neg, q), withSign(n.neg, r)
}

// floorDivided is the quotient, cut down, by a number that is not zero, and the remainder.
func (n signed) floorDivided(by signed) (quotient, remainder signed) {
	q, r := n.divided(by)
	if len(r.size) > 0 && r.neg != by.neg {
		q, r = q.minus(one()), r.plus(by)
	}
	return q, r
}

func one() signed {
	return withSign(false, natural{1})
}

// shifted is the number times a power of two, cut down.
func (n signed) shifted(by int) signed {
	if by >= 0 {
		return withSign(n.neg, n.size.shiftedLeft(by).trimmed())
	}
	if n.neg {
		// A magnitude is cut towards zero. That of the number above this one, when it is cut, is one less than the magnitude of what is asked for.
		return withSign(true, n.plus(one()).size.shiftedRight(-by)).minus(one())
	}
	return withSign(false, n.size.shiftedRight(-by))
}

// combined is what f makes of the words of two numbers in two's complement.
func (n signed) combined(m signed, f func(x, y uint32) uint32) signed {
	// With a word more than the longer one has, the last word is all sign, also that of the result.
	many := max(len(n.size), len(m.size)) + 1
	l, with := n.complement(many), m.complement(many)
	for k := range l {
		l[k] = f(l[k], with[k])
	}
	neg := l[many-1]>>(wordBits-1) == 1
	if neg {
		negate(l)
	}
	return withSign(neg, l.trimmed())
}

// complement is a number in so many words of two's complement.
func (n signed) complement(many int) natural {
	l := make(natural, many)
	copy(l, n.size)
	if n.neg {
		negate(l)
	}
	return l
}

// negate makes words of two's complement those of the opposite number.
func negate(l natural) {
	carry := uint32(1)
	for k, w := range l {
		l[k], carry = bits.Add32(^w, 0, carry)
	}
}
