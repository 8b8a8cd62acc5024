package largeint_test

import (
	"testing"

	"palaver/api"
	"palaver/largeint"
)

func is(t *testing.T, call string, want int64) func(a api.Large, e api.Errno) {
	return func(a api.Large, e api.Errno) {
		t.Helper()
		if a != largeint.Of(want) || e != api.OK {
			t.Errorf("%s: %s %d", call, told(a), e)
		}
	}
}

// The chapter's examples.
func TestExamples(t *testing.T) {
	if a := largeint.Of(-300); a != (api.Large{Neg: true, Digits: string([]byte{44, 1})}) {
		t.Errorf("Of(-300): %v", a)
	}
	for _, c := range []struct {
		f          func(a, b api.Large) (api.Large, api.Large, api.Errno)
		a, b, q, r int64
	}{{largeint.Div, -7, 2, -4, 1}, {largeint.Quo, -7, 2, -3, -1}, {largeint.Div, 7, -2, -4, -1}, {largeint.Div, 6, -3, -2, 0}} {
		q, r, e := c.f(largeint.Of(c.a), largeint.Of(c.b))
		is(t, "quotient", c.q)(q, e)
		is(t, "remainder", c.r)(r, e)
	}
	is(t, "And(-4, 7)", 4)(largeint.And(largeint.Of(-4), largeint.Of(7)))
	is(t, "Or(-4, 1)", -3)(largeint.Or(largeint.Of(-4), largeint.Of(1)))
	is(t, "Xor(-1, 5)", -6)(largeint.Xor(largeint.Of(-1), largeint.Of(5)))
	is(t, "Shift(-5, -1)", -3)(largeint.Shift(largeint.Of(-5), -1))
	is(t, "Shift(1, 8)", 256)(largeint.Shift(largeint.Of(1), 8))
	is(t, "Shift(-1, -9)", -1)(largeint.Shift(largeint.Of(-1), -9))
	is(t, "Gcd(-12, 18)", 6)(largeint.Gcd(largeint.Of(-12), largeint.Of(18)))
	if n := largeint.Bits(largeint.Of(-256)); n != 9 {
		t.Errorf("Bits(-256): %d", n)
	}
	is(t, "Parse(-FF, 16)", -255)(largeint.Parse("-FF", 16))
	for s, base := range map[string]int{"ff": 16, "007": 10} {
		if a, e := largeint.Parse(s, base); a != (api.Large{}) || e != api.ErrLargeText {
			t.Errorf("Parse(%s, %d): %v %d", s, base, a, e)
		}
	}
	if s, e := largeint.Text(largeint.Of(255), 2); s != "11111111" || e != api.OK {
		t.Errorf("Text(255, 2): %s %d", s, e)
	}
}
