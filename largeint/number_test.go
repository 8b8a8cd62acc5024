package largeint_test

import (
	"math"
	"math/big"
	"strings"
	"testing"

	"palaver/api"
	"palaver/largeint"
)

// small64 is numbers of 64 bits, written by hand.
func small64() map[int64]api.Large {
	return map[int64]api.Large{
		0:                 {},
		1:                 {Digits: "\x01"},
		-1:                {Neg: true, Digits: "\x01"},
		255:               {Digits: "\xff"},
		-255:              {Neg: true, Digits: "\xff"},
		256:               {Digits: "\x00\x01"},
		-256:              {Neg: true, Digits: "\x00\x01"},
		-300:              {Neg: true, Digits: "\x2c\x01"},
		65536:             {Digits: "\x00\x00\x01"},
		0x01020304:        {Digits: "\x04\x03\x02\x01"},
		1<<32 - 1:         {Digits: "\xff\xff\xff\xff"},
		1 << 32:           {Digits: "\x00\x00\x00\x00\x01"},
		-1 << 32:          {Neg: true, Digits: "\x00\x00\x00\x00\x01"},
		0x0102030405:      {Digits: "\x05\x04\x03\x02\x01"},
		0x010203040506:    {Digits: "\x06\x05\x04\x03\x02\x01"},
		-0x01020304050607: {Neg: true, Digits: "\x07\x06\x05\x04\x03\x02\x01"},
		math.MaxInt64 - 1: {Digits: "\xfe\xff\xff\xff\xff\xff\xff\x7f"},
		math.MaxInt64:     {Digits: "\xff\xff\xff\xff\xff\xff\xff\x7f"},
		math.MinInt64 + 1: {Neg: true, Digits: "\xff\xff\xff\xff\xff\xff\xff\x7f"},
		math.MinInt64:     {Neg: true, Digits: "\x00\x00\x00\x00\x00\x00\x00\x80"},
	}
}

func TestOfAndSmall(t *testing.T) {
	for n, a := range small64() {
		if x := largeint.Of(n); x != a {
			t.Errorf("Of(%d): %v", n, x)
		}
		if m, is := largeint.Small(a); m != n || !is {
			t.Errorf("Small(%v): %d %t, not %d", a, m, is, n)
		}
	}
	d := draw(1)
	for range 5000 {
		n := int64(uint64(d.below(1<<31))<<33^uint64(d.below(1<<31))<<11) >> d.below(64)
		a := largeint.Of(n)
		if m, is := largeint.Small(a); a != number(small(n)) || m != n || !is {
			t.Fatalf("Of(%d): %v; Small of it: %d %t", n, a, m, is)
		}
	}
}

// Numbers that 64 bits with a sign do not hold: one beyond each end, those that wrap round to a number that they hold, and long ones.
func TestSmallOfNumbersThatDoNotFit(t *testing.T) {
	for _, n := range []*big.Int{
		power(63, 0), minus(power(63, 1)), power(63, 1), minus(power(63, 2)),
		power(64, -1), minus(power(64, -1)), power(64, 0), minus(power(64, 0)), power(64, 1), minus(power(64, 1)),
		power(64, -256), minus(power(64, -5)), power(72, 1), minus(power(71, 0)), power(96, 7), power(128, 0), longest(), minus(longest()),
	} {
		if m, is := largeint.Small(number(n)); m != 0 || is {
			t.Errorf("Small(%s): %d %t", told(number(n)), m, is)
		}
	}
	for a := range invalid() {
		if m, is := largeint.Small(a); m != 0 || is {
			t.Errorf("Small of %d digits that may not be: %d %t", len(a.Digits), m, is)
		}
	}
}

func TestCheck(t *testing.T) {
	for _, n := range samples() {
		if e := largeint.Check(number(n)); e != api.OK {
			t.Errorf("Check(%s): %d", told(number(n)), e)
		}
	}
	for _, a := range []api.Large{
		{}, {Digits: "\x01"}, {Neg: true, Digits: "\x01"}, {Digits: "\x00\x01"}, {Digits: "\x00\xff"},
		{Digits: strings.Repeat("\x01", 4096)}, {Neg: true, Digits: strings.Repeat("\xff", 4096)}, {Digits: strings.Repeat("\x00", 4095) + "\x01"},
	} {
		if e := largeint.Check(a); e != api.OK {
			t.Errorf("Check of %d digits: %d", len(a.Digits), e)
		}
	}
	for a, want := range invalid() {
		if e := largeint.Check(a); e != want {
			t.Errorf("Check of %d digits that may not be: %d, not %d", len(a.Digits), e, want)
		}
	}
}

// The errors that Check gives, by their numbers: too many digits are told ahead of a last one that is 0.
func TestCheckInOrder(t *testing.T) {
	for _, c := range []struct {
		a    api.Large
		want api.Errno
	}{
		{api.Large{Neg: true}, 1},
		{api.Large{Digits: "\x05\x00"}, 1},
		{api.Large{Digits: strings.Repeat("\x05", 4096)}, 0},
		{api.Large{Digits: strings.Repeat("\x05", 4097)}, 92},
		{api.Large{Digits: strings.Repeat("\x05", 4096) + "\x00"}, 92},
	} {
		if e := largeint.Check(c.a); e != c.want {
			t.Errorf("Check of %d digits: %d, not %d", len(c.a.Digits), e, c.want)
		}
	}
}

func TestBits(t *testing.T) {
	same := func(n *big.Int, want int) {
		t.Helper()
		if m := largeint.Bits(number(n)); m != want {
			t.Errorf("Bits(%s): %d, not %d", told(number(n)), m, want)
		}
	}
	same(small(0), 0)
	same(small(1), 1)
	same(small(-1), 1)
	same(small(-256), 9)
	for n := uint(1); n <= 32767; n++ {
		if n > 300 && n%97 != 0 && n < 32700 {
			continue
		}
		same(power(n, -1), int(n))
		same(power(n, 0), int(n)+1)
		same(minus(power(n, 0)), int(n)+1)
		same(minus(power(n, -1)), int(n))
		if n > 1 {
			same(power(n, 1), int(n)+1)
		}
	}
	same(longest(), 32768)
	for a := range invalid() {
		if m := largeint.Bits(a); m != 0 {
			t.Errorf("Bits of %d digits that may not be: %d", len(a.Digits), m)
		}
	}
}

func TestCmp(t *testing.T) {
	l := samples()
	for _, n := range l {
		for _, m := range l {
			if c, e := largeint.Cmp(number(n), number(m)); c != n.Cmp(m) || e != api.OK {
				t.Fatalf("Cmp(%s, %s): %d %d", told(number(n)), told(number(m)), c, e)
			}
		}
	}
}

// Numbers that differ in one digit alone, wherever it stands.
func TestCmpOfOneDigit(t *testing.T) {
	for _, digits := range []int{1, 2, 3, 4, 5, 8, 9, 31, 4095, 4096} {
		for k := 0; k < digits; k += 1 + digits/37 {
			l := []byte(strings.Repeat("\x7f", digits))
			less := api.Large{Digits: string(l)}
			l[k]++
			more := api.Large{Digits: string(l)}
			compares(t, less, more, -1)
			less.Neg, more.Neg = true, true
			compares(t, less, more, 1)
			less.Neg, more.Neg = true, false
			compares(t, less, more, -1)
		}
	}
}

func compares(t *testing.T, a, b api.Large, want int) {
	t.Helper()
	c, e := largeint.Cmp(a, b)
	if c != want || e != api.OK {
		t.Errorf("Cmp(%s, %s): %d %d, not %d", told(a), told(b), c, e, want)
	}
	c, e = largeint.Cmp(b, a)
	if c != -want || e != api.OK {
		t.Errorf("Cmp(%s, %s): %d %d, not %d", told(b), told(a), c, e, -want)
	}
	c, e = largeint.Cmp(a, a)
	if c != 0 || e != api.OK {
		t.Errorf("Cmp(%s, %s): %d %d, not 0", told(a), told(a), c, e)
	}
}
