package largeint_test

import (
	"math"
	"testing"

	"palaver/api"
	"palaver/largeint"
)

func TestErrorsHaveTheirNumbers(t *testing.T) {
	if _, e := largeint.Add(api.Large{Neg: true}, largeint.Of(1)); e != 1 {
		t.Error(e)
	}
	if _, _, e := largeint.Div(largeint.Of(1), largeint.Of(0)); e != 90 {
		t.Error(e)
	}
	if _, e := largeint.Shift(largeint.Of(1), 32769); e != 91 {
		t.Error(e)
	}
	if _, e := largeint.Shift(largeint.Of(1), 32768); e != 92 {
		t.Error(e)
	}
	if _, e := largeint.Parse("", 10); e != 93 {
		t.Error(e)
	}
}

// answer is an error, and whether all that stands beside it is its zero value.
type answer struct {
	err  api.Errno
	zero bool
}

// both is what each function on two numbers answers.
func both(a, b api.Large) map[string]answer {
	m := map[string]answer{}
	for _, o := range operations() {
		x, e := o.f(a, b)
		m[o.name] = answer{e, x == api.Large{}}
	}
	for _, v := range divisions() {
		q, r, e := v.f(a, b)
		m[v.name] = answer{e, q == api.Large{} && r == api.Large{}}
	}
	c, e := largeint.Cmp(a, b)
	m["Cmp"] = answer{e, c == 0}
	return m
}

func fails(t *testing.T, a, b api.Large, want api.Errno) {
	t.Helper()
	answers := both(a, b)
	if len(answers) != 10 {
		t.Fatal(len(answers))
	}
	for name, x := range answers {
		if x.err != want || !x.zero {
			t.Errorf("%s of %d and %d digits: %d, not %d; the rest zero: %t", name, len(a.Digits), len(b.Digits), x.err, want, x.zero)
		}
	}
}

// Each function on two numbers gives the first one's error, then the second one's, and both ahead of its own: by nought, too long.
func TestErrorsOfTwoNumbers(t *testing.T) {
	good := []api.Large{{}, largeint.Of(1), largeint.Of(-300), number(longest()), number(minus(longest()))}
	for a, want := range invalid() {
		for _, b := range good {
			fails(t, a, b, want)
			fails(t, b, a, want)
		}
		for b := range invalid() {
			fails(t, a, b, want)
		}
	}
}

func TestDivisionByZero(t *testing.T) {
	for _, n := range samples() {
		for _, v := range divisions() {
			if q, r, e := v.f(number(n), api.Large{}); q != (api.Large{}) || r != (api.Large{}) || e != 90 {
				t.Errorf("%s(%s, 0): %s %s %d", v.name, told(number(n)), told(q), told(r), e)
			}
		}
	}
}

// Functions on one number give its error ahead of their own.
func TestErrorsOfOneNumber(t *testing.T) {
	for a, want := range invalid() {
		for _, n := range []int{0, 1, -1, 8, 10, 16, 36, 37, 32768, 32769, -32768, -32769, math.MaxInt, math.MinInt} {
			if x, e := largeint.Shift(a, n); x != (api.Large{}) || e != want {
				t.Errorf("Shift of %d digits by %d: %d digits, %d, not %d", len(a.Digits), n, len(x.Digits), e, want)
			}
			if s, e := largeint.Text(a, n); s != "" || e != want {
				t.Errorf("Text of %d digits to %d: %q %d, not %d", len(a.Digits), n, s, e, want)
			}
		}
	}
}
