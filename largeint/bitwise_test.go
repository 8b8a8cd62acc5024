package largeint_test

import (
	"math"
	"math/big"
	"testing"

	"palaver/api"
	"palaver/largeint"
)

func TestBitsOfSmallNumbers(t *testing.T) {
	and, or, xor := operationNamed("And"), operationNamed("Or"), operationNamed("Xor")
	for n := int64(-70); n <= 70; n++ {
		for m := int64(-70); m <= 70; m++ {
			for _, by := range []uint{0, 6, 26, 31, 33, 56} {
				x, y := n<<by, m<<by
				and.gives(t, small(x), small(y), small(x&y))
				or.gives(t, small(x), small(y), small(x|y))
				xor.gives(t, small(x), small(y), small(x^y))
			}
			and.gives(t, small(n<<40), small(m), small(n<<40&m))
			or.gives(t, small(n), small(m<<40), small(n|m<<40))
			xor.gives(t, small(n<<32), small(m<<24), small(n<<32^m<<24))
		}
	}
}

// Numbers whose low digits are all zero, with a result that needs a digit more than both: a carry of two's complement through all digits.
func TestBitsThatNeedOneMoreDigit(t *testing.T) {
	and, or, xor := operationNamed("And"), operationNamed("Or"), operationNamed("Xor")
	for digits := uint(1); digits < 4096; digits++ {
		if digits > 40 && digits%101 != 0 && digits < 4090 {
			continue
		}
		over, most := power(8*digits, 0), power(8*digits, -1)
		and.gives(t, minus(most), small(-2), minus(over))
		and.gives(t, small(-2), minus(most), minus(over))
		xor.gives(t, most, small(-1), minus(over))
		xor.gives(t, small(-1), most, minus(over))
		xor.gives(t, minus(over), small(-1), most)
		or.gives(t, minus(over), most, small(-1))
		or.gives(t, minus(over), small(1), minus(most))
		and.gives(t, minus(over), most, small(0))
		and.gives(t, minus(over), minus(most), minus(over))
		and.gives(t, minus(over), over, over)
		xor.gives(t, over, minus(over), minus(power(8*digits+1, 0)))
	}
}

// Results that get shorter, and zero among them.
func TestBitsThatGetShorter(t *testing.T) {
	and, or, xor := operationNamed("And"), operationNamed("Or"), operationNamed("Xor")
	for digits := uint(1); digits < 40; digits++ {
		high := power(8*digits, 0)
		for less := range digits {
			low := power(8*less, 0)
			and.gives(t, plus(high, low), power(8*less, 0), low)
			xor.gives(t, plus(high, low), high, low)
			xor.gives(t, minus(high), new(big.Int).Sub(low, high), low)
			or.gives(t, minus(high), power(8*digits, -1), small(-1))
			or.gives(t, minus(plus(high, low)), plus(high, power(8*less, -1)), or.model(new(big.Int), minus(plus(high, low)), plus(high, power(8*less, -1))))
			and.gives(t, high, low, small(0))
		}
	}
}

func TestBitsAtTheGreatestLength(t *testing.T) {
	and, or, xor, most := operationNamed("And"), operationNamed("Or"), operationNamed("Xor"), longest()
	tooMuch(t, largeint.And, minus(most), small(-2))
	tooMuch(t, largeint.And, small(-2), minus(most))
	tooMuch(t, largeint.And, minus(most), new(big.Int).Sub(power(32768, -4), power(32768, -2)))
	tooMuch(t, largeint.Xor, most, small(-1))
	tooMuch(t, largeint.Xor, small(-1), most)
	and.gives(t, minus(most), small(-1), minus(most))
	and.gives(t, minus(most), small(-3), minus(most))
	and.gives(t, most, minus(most), small(1))
	and.gives(t, most, most, most)
	and.gives(t, plus(minus(most), small(1)), small(-2), plus(minus(most), small(1)))
	or.gives(t, most, minus(most), small(-1))
	or.gives(t, most, small(1), most)
	or.gives(t, minus(most), small(1), minus(most))
	or.gives(t, minus(power(32767, 0)), power(32767, -1), small(-1))
	xor.gives(t, plus(most, small(-1)), small(-1), minus(most))
	xor.gives(t, most, minus(most), small(-2))
	xor.gives(t, power(32767, 0), minus(power(32767, 0)), power(32768, 0).Neg(power(32768, 0)))
	d := draw(21)
	for range 40 {
		n, m := d.sized(4096), d.sized(4096-d.below(3))
		and.try(t, n, m)
		or.try(t, n, m)
		xor.try(t, n, m)
	}
}

// shifts holds Shift against a product, or against a quotient that is cut down.
func shifts(t *testing.T, n *big.Int, by int) {
	t.Helper()
	a := number(n)
	want := new(big.Int)
	if by >= 0 {
		want.Mul(n, power(uint(by), 0))
	} else {
		want, _ = floor(n, power(uint(-by), 0))
	}
	x, e := largeint.Shift(a, by)
	if tooLong(want) {
		if x != (api.Large{}) || e != 92 {
			t.Fatalf("Shift(%s, %d): %s %d, which is too long", told(a), by, told(x), e)
		}
		return
	}
	if x != number(want) || e != api.OK {
		t.Fatalf("Shift(%s, %d): %s %d, not %s", told(a), by, told(x), e, told(number(want)))
	}
}

// By nothing, by multiples of digits and of words and by others, to both sides.
func TestShift(t *testing.T) {
	for _, n := range samples() {
		for _, by := range []int{0, 1, 2, 5, 7, 8, 9, 16, 24, 31, 32, 33, 63, 64, 65, 95, 96, 97, 128, 256, 257, 1000, 32735, 32736, 32760, 32767, 32768} {
			shifts(t, n, by)
			shifts(t, n, -by)
		}
	}
	d := draw(31)
	for range 3000 {
		n := d.some()
		shifts(t, n, d.below(700)-350)
		shifts(t, n, d.below(65537)-32768)
	}
}

func TestShiftsAreRoundedDown(t *testing.T) {
	for _, c := range [][3]int64{
		{5, -1, 2}, {-5, -1, -3}, {-4, -1, -2}, {-1, -1, -1}, {1, -1, 0}, {-1, -9, -1}, {-1, -32768, -1}, {1, -32768, 0},
		{255, -8, 0}, {-255, -8, -1}, {-256, -8, -1}, {-257, -8, -2}, {-512, -8, -2}, {1 << 40, -32, 256}, {-1 << 40, -32, -256}, {-1<<40 - 1, -32, -257}, {-1<<40 + 1, -32, -256},
		{-1 << 32, -32, -1}, {-1 << 32, -33, -1}, {-1<<32 - 1, -32, -2}, {1, 8, 256}, {3, 33, 3 << 33}, {-3, 33, -3 << 33}, {0, 32768, 0}, {0, -32768, 0}, {0, 0, 0}, {-7, 0, -7},
	} {
		if x, e := largeint.Shift(largeint.Of(c[0]), int(c[1])); x != largeint.Of(c[2]) || e != api.OK {
			t.Errorf("Shift(%d, %d): %s %d, not %d", c[0], c[1], told(x), e, c[2])
		}
	}
	// A carry through all words behind the cut.
	shifts(t, minus(power(320, -1)), -32)
	shifts(t, minus(power(320, 1)), -64)
	shifts(t, minus(plus(power(320, 0), power(63, 0))), -64)
	shifts(t, minus(longest()), -1)
	shifts(t, minus(longest()), -32768)
	shifts(t, minus(longest()), -32767)
}

func TestShiftsAtTheGreatestLength(t *testing.T) {
	for bits := uint(1); bits <= 32768; bits += 511 {
		by := int(32768 - bits)
		for _, n := range []*big.Int{power(bits, -1), minus(power(bits, -1)), power(bits-1, 0)} {
			shifts(t, n, by)
			x, e := largeint.Shift(number(n), by)
			if len(x.Digits) != 4096 || e != api.OK {
				t.Fatalf("Shift(%s, %d): %d digits, %d", told(number(n)), by, len(x.Digits), e)
			}
			if x, e := largeint.Shift(number(n), by+1); x != (api.Large{}) || e != 92 {
				t.Fatalf("Shift(%s, %d): %d digits, %d", told(number(n)), by+1, len(x.Digits), e)
			}
		}
	}
}

func TestShiftsTooFar(t *testing.T) {
	for _, n := range []int64{0, 1, -1, 1 << 40} {
		for _, by := range []int{32769, -32769, 32770, 65536, -65536, 1 << 31, -1 << 31, math.MaxInt, math.MinInt} {
			if x, e := largeint.Shift(largeint.Of(n), by); x != (api.Large{}) || e != 91 {
				t.Errorf("Shift(%d, %d): %s %d", n, by, told(x), e)
			}
		}
	}
	if x, e := largeint.Shift(number(longest()), 32769); x != (api.Large{}) || e != 91 {
		t.Error("too far is told ahead of too long:", told(x), e)
	}
	if x, e := largeint.Shift(largeint.Of(1), 32768); x != (api.Large{}) || e != 92 {
		t.Error(told(x), e)
	}
}
