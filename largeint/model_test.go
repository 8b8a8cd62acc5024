package largeint_test

import (
	"math/big"
	"slices"
	"strings"
	"testing"

	"palaver/api"
	"palaver/largeint"
)

// The exact signatures: a caller may keep these functions in variables.
var (
	_ func(int64) api.Large                                  = largeint.Of
	_ func(api.Large) (int64, bool)                          = largeint.Small
	_ func(api.Large) api.Errno                              = largeint.Check
	_ func(a, b api.Large) (int, api.Errno)                  = largeint.Cmp
	_ func(a, b api.Large) (api.Large, api.Errno)            = largeint.Add
	_ func(a, b api.Large) (api.Large, api.Errno)            = largeint.Sub
	_ func(a, b api.Large) (api.Large, api.Errno)            = largeint.Mul
	_ func(a, b api.Large) (api.Large, api.Large, api.Errno) = largeint.Div
	_ func(a, b api.Large) (api.Large, api.Large, api.Errno) = largeint.Quo
	_ func(a, b api.Large) (api.Large, api.Errno)            = largeint.Gcd
	_ func(a, b api.Large) (api.Large, api.Errno)            = largeint.And
	_ func(a, b api.Large) (api.Large, api.Errno)            = largeint.Or
	_ func(a, b api.Large) (api.Large, api.Errno)            = largeint.Xor
	_ func(a api.Large, by int) (api.Large, api.Errno)       = largeint.Shift
	_ func(api.Large) int                                    = largeint.Bits
	_ func(s string, base int) (api.Large, api.Errno)        = largeint.Parse
	_ func(a api.Large, base int) (string, api.Errno)        = largeint.Text
)

// number is a number of package math/big as the document has it.
func number(n *big.Int) api.Large {
	l := n.Bytes()
	slices.Reverse(l)
	return api.Large{Neg: n.Sign() < 0, Digits: string(l)}
}

// value is a number of the document's as one of package math/big.
func value(a api.Large) *big.Int {
	l := []byte(a.Digits)
	slices.Reverse(l)
	n := new(big.Int).SetBytes(l)
	if a.Neg {
		n.Neg(n)
	}
	return n
}

// tooLong tells whether a number has more than 4096 digits.
func tooLong(n *big.Int) bool {
	return n.BitLen() > 32768
}

func small(n int64) *big.Int {
	return big.NewInt(n)
}

// power is 2^n, and d more.
func power(n uint, d int64) *big.Int {
	p := new(big.Int).Lsh(small(1), n)
	return p.Add(p, small(d))
}

func minus(n *big.Int) *big.Int {
	return new(big.Int).Neg(n)
}

func plus(n, m *big.Int) *big.Int {
	return new(big.Int).Add(n, m)
}

func times(n, m *big.Int) *big.Int {
	return new(big.Int).Mul(n, m)
}

// hex is a number that is written to the base 16.
func hex(s string) *big.Int {
	n, is := new(big.Int).SetString(strings.ReplaceAll(s, " ", ""), 16)
	if !is {
		panic(s)
	}
	return n
}

// longest is the greatest number of 4096 digits.
func longest() *big.Int {
	return power(32768, -1)
}

// told is a number as a failing test shows it.
func told(a api.Large) string {
	s := value(a).Text(16)
	if len(s) > 200 {
		s = s[:90] + ".." + s[len(s)-90:]
	}
	return s
}

// draw tells numbers by a fixed rule.
type draw uint64

func (d *draw) below(n int) int {
	*d = *d*6364136223846793005 + 1442695040888963407
	return int(uint64(*d) >> 33 % uint64(n))
}

// sized is a number of so many digits, or less: some of its stretches are all zeros or all ones.
func (d *draw) sized(digits int) *big.Int {
	l := make([]byte, digits)
	for k := 0; k < digits; {
		kind := d.below(5)
		for end := k + 1 + d.below(9); k < digits && k < end; k++ {
			switch kind {
			case 0:
				l[k] = 0
			case 1:
				l[k] = 255
			case 2:
				l[k] = byte(1 << d.below(8))
			default:
				l[k] = byte(d.below(256))
			}
		}
	}
	n := new(big.Int).SetBytes(l)
	if d.below(2) == 0 {
		n.Neg(n)
	}
	return n
}

// some is a number of up to 40 digits, mostly.
func (d *draw) some() *big.Int {
	if d.below(50) == 0 {
		return d.sized(d.below(4097))
	}
	return d.sized(d.below(41))
}

// samples are numbers at the bounds of digits, of words and of all, with their opposites.
func samples() []*big.Int {
	l := []*big.Int{small(0), small(3), small(10), small(1000), longest(), power(32767, 0), power(32760, -1), power(32736, 1)}
	for _, n := range []uint{0, 1, 7, 8, 9, 16, 24, 31, 32, 33, 40, 63, 64, 65, 96, 127, 128, 160, 256} {
		l = append(l, power(n, -1), power(n, 0), power(n, 1))
	}
	d := draw(7)
	for digits := range 20 {
		l = append(l, d.sized(digits))
	}
	for _, n := range l {
		l = append(l, minus(n))
	}
	return l
}

// someSamples are few of the samples, for what takes three of them.
func someSamples() []*big.Int {
	var l []*big.Int
	for k, n := range samples() {
		if k%8 == 0 && n.BitLen() < 10000 {
			l = append(l, n)
		}
	}
	return l
}

// invalid are numbers that may not be, with what Check tells of them.
func invalid() map[api.Large]api.Errno {
	return map[api.Large]api.Errno{
		{Neg: true}:                                       api.ErrArg,
		{Digits: "\x00"}:                                  api.ErrArg,
		{Neg: true, Digits: "\x00"}:                       api.ErrArg,
		{Digits: "\x01\x00"}:                              api.ErrArg,
		{Neg: true, Digits: "\xff\x00\x00\x00\x00"}:       api.ErrArg,
		{Digits: strings.Repeat("\x00", 9)}:               api.ErrArg,
		{Digits: strings.Repeat("\xff", 4095) + "\x00"}:   api.ErrArg,
		{Digits: strings.Repeat("\x01", 4097)}:            api.ErrLargeLong,
		{Neg: true, Digits: strings.Repeat("\xff", 4097)}: api.ErrLargeLong,
		{Digits: strings.Repeat("\xff", 4096) + "\x00"}:   api.ErrLargeLong,
		{Digits: strings.Repeat("\x00", 4097)}:            api.ErrLargeLong,
		{Neg: true, Digits: strings.Repeat("\x00", 5000)}: api.ErrLargeLong,
		{Digits: strings.Repeat("\x00", 100000) + "\x01"}: api.ErrLargeLong,
	}
}

// operation is a function on two numbers, and what package math/big makes of them.
type operation struct {
	name  string
	f     func(a, b api.Large) (api.Large, api.Errno)
	model func(z, x, y *big.Int) *big.Int
}

func operations() []operation {
	return []operation{
		{"Add", largeint.Add, (*big.Int).Add},
		{"Sub", largeint.Sub, (*big.Int).Sub},
		{"Mul", largeint.Mul, (*big.Int).Mul},
		{"Gcd", largeint.Gcd, func(z, x, y *big.Int) *big.Int { return z.GCD(nil, nil, new(big.Int).Abs(x), new(big.Int).Abs(y)) }},
		{"And", largeint.And, (*big.Int).And},
		{"Or", largeint.Or, (*big.Int).Or},
		{"Xor", largeint.Xor, (*big.Int).Xor},
	}
}

func operationNamed(name string) operation {
	l := operations()
	return l[slices.IndexFunc(l, func(o operation) bool { return o.name == name })]
}

// try holds what a function makes of two numbers against what package math/big makes of them.
func (o operation) try(t *testing.T, n, m *big.Int) {
	t.Helper()
	o.gives(t, n, m, o.model(new(big.Int), n, m))
}

// gives holds what a function makes of two numbers against a number.
func (o operation) gives(t *testing.T, n, m, want *big.Int) {
	t.Helper()
	a, b := number(n), number(m)
	x, e := o.f(a, b)
	if tooLong(want) {
		if x != (api.Large{}) || e != api.ErrLargeLong {
			t.Fatalf("%s(%s, %s): %s %d, which is too long", o.name, told(a), told(b), told(x), e)
		}
		return
	}
	if x != number(want) || e != api.OK {
		t.Fatalf("%s(%s, %s): %s %d, not %s", o.name, told(a), told(b), told(x), e, told(number(want)))
	}
}

// division is a function that divides, and what package math/big makes of that.
type division struct {
	name  string
	f     func(a, b api.Large) (api.Large, api.Large, api.Errno)
	model func(n, m *big.Int) (*big.Int, *big.Int)
}

func divisions() []division {
	return []division{{"Div", largeint.Div, floor}, {"Quo", largeint.Quo, truncated}}
}

func truncated(n, m *big.Int) (*big.Int, *big.Int) {
	return new(big.Int).QuoRem(n, m, new(big.Int))
}

// floor takes the greatest quotient whose product is not farther than the dividend.
func floor(n, m *big.Int) (*big.Int, *big.Int) {
	q, r := truncated(n, m)
	if r.Sign()*m.Sign() < 0 {
		q.Sub(q, small(1))
		r.Add(r, m)
	}
	return q, r
}

func (v division) try(t *testing.T, n, m *big.Int) {
	t.Helper()
	q, r := v.model(n, m)
	v.gives(t, n, m, q, r)
}

func (v division) gives(t *testing.T, n, m, quotient, remainder *big.Int) {
	t.Helper()
	a, b := number(n), number(m)
	q, r, e := v.f(a, b)
	if q != number(quotient) || r != number(remainder) || e != api.OK {
		t.Fatalf("%s(%s, %s): %s %s %d, not %s %s", v.name, told(a), told(b), told(q), told(r), e, told(number(quotient)), told(number(remainder)))
	}
}
