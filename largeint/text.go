package largeint

import (
	"math/bits"
	"slices"
	"strings"

	"palaver/api"
)

// letters are the digits of texts; a base has the first ones.
const (
	letters = "0123456789ABCDEFGHIJKLMNOPQRSTUVWXYZ"
	minBase = 2
	maxBase = len(letters)
)

// maxWords is how many words the longest number has.
const maxWords = api.MaxLarge / wordDigits

// Parse reads a number to a base.
func Parse(s string, base int) (api.Large, api.Errno) {
	if !isBase(base) {
		return api.Large{}, api.ErrArg
	}
	digits, neg := strings.CutPrefix(s, "-")
	if !areDigits(digits, base) || digits[0] == '0' && s != "0" {
		return api.Large{}, api.ErrLargeText
	}
	size, err := readDigits(digits, base)
	if err != api.OK {
		return api.Large{}, err
	}
	return withSign(neg, size).large(), api.OK
}

// Text writes one to a base.
func Text(a api.Large, base int) (string, api.Errno) {
	if err := Check(a); err != api.OK {
		return "", err
	}
	if !isBase(base) {
		return "", api.ErrArg
	}
	l := writeDigits(wordsOf(a.Digits), base)
	if len(l) == 0 {
		l = append(l, letters[0])
	}
	if a.Neg {
		l = append(l, '-')
	}
	slices.Reverse(l)
	return string(l), api.OK
}

func isBase(base int) bool {
	return base >= minBase && base <= maxBase
}

// areDigits tells whether a text is one or more digits of a base.
func areDigits(s string, base int) bool {
	for k := range len(s) {
		if digitOf(s[k]) >= base {
			return false
		}
	}
	return len(s) > 0
}

// digitOf is a digit's value; what is none has one that is too great for each base.
func digitOf(c byte) int {
	switch {
	case c >= '0' && c <= '9':
		return int(c - '0')
	case c >= 'A' && c <= 'Z':
		return int(c-'A') + 10
	}
	return maxBase
}

// piece is how many digits of a base fit into a word, and what a number is multiplied by to lay so many behind it.
func piece(base int) (many int, power uint32) {
	power = 1
	for {
		high, low := bits.Mul32(power, uint32(base))
		if high > 0 {
			return many, power
		}
		many, power = many+1, low
	}
}

// readDigits is the number that digits of a base are.
func readDigits(s string, base int) (natural, api.Errno) {
	many, power := piece(base)
	var n natural
	// The first piece is the short one, so that the power is that of all others.
	for end := len(s) % many; end <= len(s); end += many {
		value := uint32(0)
		for k := max(end-many, 0); k < end; k++ {
			value = value*uint32(base) + uint32(digitOf(s[k]))
		}
		n = n.extended(power, value)
		// A number never gets shorter on the way: what is too long now need not be read to its end.
		if len(n) > maxWords {
			return nil, api.ErrLargeLong
		}
	}
	return n, api.OK
}

// extended is a number times a word and then with another one added; it lies where the number lay.
func (n natural) extended(by, and uint32) natural {
	for k, w := range n {
		high, low := bits.Mul32(w, by)
		low, carry := bits.Add32(low, and, 0)
		n[k], and = low, high+carry
	}
	if and > 0 {
		n = append(n, and)
	}
	return n
}

// writeDigits is the digits of a base that a number has, the lowest first. It uses the number up.
func writeDigits(n natural, base int) []byte {
	many, power := piece(base)
	var l []byte
	for len(n) > 0 {
		rest := n.cut(power)
		n = n.trimmed()
		// Above the number's last piece nothing is written.
		for k := 0; k < many && (len(n) > 0 || rest > 0); k++ {
			l = append(l, letters[rest%uint32(base)])
			rest /= uint32(base)
		}
	}
	return l
}

// cut divides words by one, where they lie, and tells the remainder.
func (n natural) cut(by uint32) uint32 {
	rest := uint32(0)
	for k := len(n) - 1; k >= 0; k-- {
		n[k], rest = bits.Div32(rest, n[k], by)
	}
	return rest
}
