package largeint_test

import (
	"math/big"
	"testing"

	"palaver/api"
	"palaver/largeint"
)

func made(t *testing.T) func(a api.Large, e api.Errno) api.Large {
	return func(a api.Large, e api.Errno) api.Large {
		t.Helper()
		if e != api.OK {
			t.Fatal(e)
		}
		return a
	}
}

func equal(t *testing.T, what string, a, b api.Large, l ...api.Large) {
	t.Helper()
	if a == b {
		return
	}
	from := ""
	for _, x := range l {
		from += " " + told(x)
	}
	t.Fatalf("%s of%s: %s and %s", what, from, told(a), told(b))
}

func laws(t *testing.T, a, b, c api.Large) {
	t.Helper()
	m := made(t)
	equal(t, "a + b = b + a", m(largeint.Add(a, b)), m(largeint.Add(b, a)), a, b)
	equal(t, "a * b = b * a", m(largeint.Mul(a, b)), m(largeint.Mul(b, a)), a, b)
	equal(t, "(a + b) + c = a + (b + c)", m(largeint.Add(m(largeint.Add(a, b)), c)), m(largeint.Add(a, m(largeint.Add(b, c)))), a, b, c)
	equal(t, "(a * b) * c = a * (b * c)", m(largeint.Mul(m(largeint.Mul(a, b)), c)), m(largeint.Mul(a, m(largeint.Mul(b, c)))), a, b, c)
	equal(t, "a * (b + c) = a * b + a * c", m(largeint.Mul(a, m(largeint.Add(b, c)))), m(largeint.Add(m(largeint.Mul(a, b)), m(largeint.Mul(a, c)))), a, b, c)
	equal(t, "(a - b) + b = a", m(largeint.Add(m(largeint.Sub(a, b)), b)), a, a, b)
	equal(t, "a - b = 0 - (b - a)", m(largeint.Sub(a, b)), m(largeint.Sub(api.Large{}, m(largeint.Sub(b, a)))), a, b)
}

// What holds: sums and products satisfy the laws of integer arithmetic.
func TestLawsOfArithmetic(t *testing.T) {
	l := someSamples()
	for _, n := range l {
		for _, m := range l {
			for _, k := range l {
				laws(t, number(n), number(m), number(k))
			}
		}
	}
	d := draw(61)
	for range 3000 {
		laws(t, number(d.sized(d.below(60))), number(d.sized(d.below(60))), number(d.sized(d.below(60))))
	}
}

// What holds: a = quotient * b + remainder, whose magnitude is less than that of b, and whose sign is that of b, or that of a.
func TestQuotientsAndRemainders(t *testing.T) {
	d := draw(67)
	l := samples()
	for k := range 6000 {
		n, by := d.some(), d.some()
		if k < len(l)*8 {
			n, by = l[k%len(l)], l[d.below(len(l))]
		}
		if by.Sign() == 0 {
			continue
		}
		for _, v := range divisions() {
			q, r, e := v.f(number(n), number(by))
			if e != api.OK || largeint.Check(q) != api.OK || largeint.Check(r) != api.OK {
				t.Fatalf("%s(%s, %s): %d", v.name, told(number(n)), told(number(by)), e)
			}
			// The product may be longer than a number may be, so it is computed beside.
			equal(t, "q * b + r = a", number(plus(times(value(q), by), value(r))), number(n), number(n), number(by))
			if product, e := largeint.Mul(q, number(by)); e == api.OK {
				equal(t, "q * b + r = a", made(t)(largeint.Add(product, r)), number(n), number(n), number(by))
			}
			r0, by0 := api.Large{Digits: r.Digits}, api.Large{Digits: number(by).Digits}
			if c, e := largeint.Cmp(r0, by0); c != -1 || e != api.OK {
				t.Fatalf("%s(%s, %s): the remainder is %s", v.name, told(number(n)), told(number(by)), told(r))
			}
			sign := number(by).Neg
			if v.name == "Quo" {
				sign = number(n).Neg
			}
			if r != (api.Large{}) && r.Neg != sign {
				t.Fatalf("%s(%s, %s): the remainder is %s", v.name, told(number(n)), told(number(by)), told(r))
			}
		}
	}
}

// What holds: (a And b) + (a Or b) = a + b, and a Xor b = (a Or b) - (a And b); and a shift is a product or a quotient.
func TestTwosComplement(t *testing.T) {
	m := made(t)
	pair := func(n, k *big.Int) {
		a, b := number(n), number(k)
		and, or := m(largeint.And(a, b)), m(largeint.Or(a, b))
		equal(t, "(a And b) + (a Or b) = a + b", m(largeint.Add(and, or)), m(largeint.Add(a, b)), a, b)
		equal(t, "a Xor b = (a Or b) - (a And b)", m(largeint.Xor(a, b)), m(largeint.Sub(or, and)), a, b)
		equal(t, "(a Xor b) Xor b = a", m(largeint.Xor(m(largeint.Xor(a, b)), b)), a, a, b)
		equal(t, "-1 - a = a Xor -1", m(largeint.Sub(largeint.Of(-1), a)), m(largeint.Xor(a, largeint.Of(-1))), a)
	}
	for _, n := range samples() {
		for _, k := range samples() {
			if n.BitLen() < 30000 && k.BitLen() < 30000 {
				pair(n, k)
			}
		}
	}
	d := draw(71)
	for range 4000 {
		n, by := d.sized(d.below(60)), d.below(300)
		pair(n, d.sized(d.below(60)))
		two := number(power(uint(by), 0))
		equal(t, "a shifted = a * 2^n", m(largeint.Shift(number(n), by)), m(largeint.Mul(number(n), two)), number(n))
		q, _, e := largeint.Div(number(n), two)
		equal(t, "a shifted back = a / 2^n", m(largeint.Shift(number(n), -by)), m(q, e), number(n))
	}
}

// Of all integers each has one representation: what comes out is valid.
func TestResultsAreValid(t *testing.T) {
	d := draw(73)
	for range 2000 {
		a, b := number(d.some()), number(d.some())
		for _, o := range operations() {
			if x, _ := o.f(a, b); largeint.Check(x) != api.OK {
				t.Fatalf("%s(%s, %s): %v", o.name, told(a), told(b), x)
			}
		}
		if x, _ := largeint.Shift(a, d.below(65537)-32768); largeint.Check(x) != api.OK {
			t.Fatalf("Shift(%s): %v", told(a), x)
		}
		if x, _ := largeint.Shift(a, -d.below(400)); largeint.Check(x) != api.OK {
			t.Fatalf("Shift(%s): %v", told(a), x)
		}
	}
}
