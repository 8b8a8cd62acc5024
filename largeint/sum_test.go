package largeint_test

import (
	"math/big"
	"testing"

	"palaver/api"
	"palaver/largeint"
)

// All functions on two numbers that give one, on all pairs of the samples.
func TestOperationsOnSamples(t *testing.T) {
	l := samples()
	for _, o := range operations() {
		for k, n := range l {
			for i, m := range l {
				if o.name == "Gcd" && n.BitLen() > 10000 && m.BitLen() > 10000 && (k+i)%7 != 0 {
					continue
				}
				o.try(t, n, m)
			}
		}
	}
}

func TestOperationsOnDrawnNumbers(t *testing.T) {
	for k, o := range operations() {
		d := draw(100 + k)
		for range 3000 {
			o.try(t, d.some(), d.some())
		}
	}
}

// A carry or a borrow that goes through all digits, for each length.
func TestCarriesThroughManyDigits(t *testing.T) {
	add, sub := operationNamed("Add"), operationNamed("Sub")
	for digits := uint(1); digits <= 4096; digits++ {
		if digits > 70 && digits%61 != 0 && digits < 4090 {
			continue
		}
		full, over := power(8*digits, -1), power(8*digits, 0)
		add.gives(t, full, small(1), over)
		add.gives(t, small(1), full, over)
		add.gives(t, minus(full), small(-1), minus(over))
		sub.gives(t, minus(full), small(1), minus(over))
		sub.gives(t, small(-1), full, minus(over))
		if digits == 4096 {
			continue
		}
		sub.gives(t, over, small(1), full)
		sub.gives(t, small(1), over, minus(full))
		add.gives(t, over, small(-1), full)
		add.gives(t, small(1), minus(over), minus(full))
		sub.gives(t, over, full, small(1))
		add.gives(t, minus(over), full, small(-1))
	}
}

// Two words that are all ones, with a carry into them: their sum is two words' worth of carry but one.
func TestCarriesBetweenWords(t *testing.T) {
	add, sub, mul := operationNamed("Add"), operationNamed("Sub"), operationNamed("Mul")
	ones := hex("ffffffffffffffffffffffff")
	add.gives(t, ones, ones, hex("1fffffffffffffffffffffffe"))
	add.gives(t, hex("ffffffff00000001"), hex("00000000ffffffff"), hex("10000000000000000"))
	add.gives(t, hex("00000001ffffffffffffffff"), hex("00000000ffffffff00000001"), hex("00000002ffffffff00000000"))
	sub.gives(t, hex("100000000000000000000000000000000"), hex("ffffffffffffffff"), hex("ffffffffffffffff0000000000000001"))
	sub.gives(t, hex("1000000000000000000000000"), hex("ffffffff00000001"), hex("ffffffff00000000ffffffff"))
	mul.gives(t, ones, ones, hex("fffffffffffffffffffffffe000000000000000000000001"))
	mul.gives(t, hex("ffffffff"), hex("ffffffff"), hex("fffffffe00000001"))
	mul.gives(t, hex("ffffffffffffffff"), hex("ffffffff"), hex("fffffffeffffffff00000001"))
	mul.gives(t, hex("100000000"), hex("-10000000000000000"), hex("-1000000000000000000000000"))
}

func TestSumsThatGetShorter(t *testing.T) {
	add, sub := operationNamed("Add"), operationNamed("Sub")
	for digits := uint(1); digits < 60; digits++ {
		n := power(8*digits, -1)
		for left := range digits {
			want := power(8*left, -1)
			sub.gives(t, n, new(big.Int).Sub(n, want), want)
			sub.gives(t, new(big.Int).Sub(n, want), n, minus(want))
			add.gives(t, n, new(big.Int).Sub(want, n), want)
		}
	}
}

// Zero is never Neg, wherever it comes from.
func TestZero(t *testing.T) {
	for _, n := range samples() {
		operationNamed("Add").gives(t, n, minus(n), small(0))
		operationNamed("Sub").gives(t, n, n, small(0))
		operationNamed("Mul").gives(t, n, small(0), small(0))
		operationNamed("Mul").gives(t, small(0), n, small(0))
		operationNamed("Add").gives(t, n, small(0), n)
		operationNamed("Add").gives(t, small(0), n, n)
		operationNamed("Sub").gives(t, n, small(0), n)
		operationNamed("Sub").gives(t, small(0), n, minus(n))
		operationNamed("Mul").gives(t, n, small(1), n)
		operationNamed("Mul").gives(t, n, small(-1), minus(n))
		operationNamed("Xor").gives(t, n, n, small(0))
	}
}

// Results of 4096 digits, and of one more.
func TestSumsAtTheGreatestLength(t *testing.T) {
	add, sub, most := operationNamed("Add"), operationNamed("Sub"), longest()
	d := draw(11)
	for range 60 {
		part := new(big.Int).Abs(d.sized(d.below(4096)))
		rest := new(big.Int).Sub(most, part)
		add.gives(t, rest, part, most)
		sub.gives(t, minus(rest), part, minus(most))
		tooMuch(t, largeint.Add, plus(rest, small(1)), part)
		tooMuch(t, largeint.Add, minus(rest), minus(plus(part, small(1))))
		tooMuch(t, largeint.Sub, plus(part, small(1)), minus(rest))
		tooMuch(t, largeint.Sub, minus(plus(rest, small(1))), part)
	}
	tooMuch(t, largeint.Add, most, small(1))
	tooMuch(t, largeint.Add, small(-1), minus(most))
	tooMuch(t, largeint.Sub, most, small(-1))
	tooMuch(t, largeint.Sub, small(-1), most)
	tooMuch(t, largeint.Add, most, most)
	tooMuch(t, largeint.Sub, minus(most), most)
	sub.gives(t, most, most, small(0))
}

func TestProductsAtTheGreatestLength(t *testing.T) {
	mul, most := operationNamed("Mul"), longest()
	mul.gives(t, power(16384, -1), power(16384, 1), most)
	mul.gives(t, power(16384, -1), minus(power(16384, 1)), minus(most))
	tooMuch(t, largeint.Mul, power(16384, 0), power(16384, 0))
	tooMuch(t, largeint.Mul, minus(power(16384, 0)), power(16384, 0))
	tooMuch(t, largeint.Mul, power(16384, 1), power(16384, 1))
	tooMuch(t, largeint.Mul, most, small(2))
	tooMuch(t, largeint.Mul, small(-2), most)
	tooMuch(t, largeint.Mul, most, most)
	tooMuch(t, largeint.Mul, power(32767, 0), small(2))
	for n := uint(1); n < 32767; n += 411 {
		mul.gives(t, power(n, 0), power(32767-n, 0), power(32767, 0))
		mul.gives(t, power(n, -1), power(32768-n, 0), new(big.Int).Sub(power(32768, 0), power(32768-n, 0)))
		tooMuch(t, largeint.Mul, power(n, 0), power(32768-n, 0))
	}
}

// tooMuch is a result of more than 4096 digits: an error, and no number beside it.
func tooMuch(t *testing.T, f func(a, b api.Large) (api.Large, api.Errno), n, m *big.Int) {
	t.Helper()
	if x, e := f(number(n), number(m)); x != (api.Large{}) || e != 92 {
		t.Fatalf("%s, %s: %s %d, which is too long", told(number(n)), told(number(m)), told(x), e)
	}
}

func TestGcd(t *testing.T) {
	gcd := operationNamed("Gcd")
	for _, c := range [][3]int64{
		{0, 0, 0}, {0, 5, 5}, {5, 0, 5}, {0, -5, 5}, {-5, 0, 5}, {1, 0, 1}, {-1, -1, 1},
		{-12, 18, 6}, {12, -18, 6}, {-12, -18, 6}, {12, 18, 6}, {7, 7, 7}, {-7, 7, 7}, {17, 5, 1}, {270, 192, 6}, {1 << 40, 1 << 33, 1 << 33},
	} {
		gcd.gives(t, small(c[0]), small(c[1]), small(c[2]))
	}
	for _, n := range samples() {
		size := new(big.Int).Abs(n)
		gcd.gives(t, n, small(0), size)
		gcd.gives(t, small(0), n, size)
		gcd.gives(t, n, n, size)
		gcd.gives(t, n, minus(n), size)
		gcd.gives(t, n, small(1), small(1))
		gcd.gives(t, small(-1), n, small(1))
	}
}

func TestGcdOfLongNumbers(t *testing.T) {
	gcd, d := operationNamed("Gcd"), draw(3)
	common := power(8*1400, -1)
	n, m := times(common, power(8*2696, -1)), times(common, minus(power(8*2695+1, 3)))
	if len(number(n).Digits) != 4096 || len(number(m).Digits) != 4096 {
		t.Fatal("numbers of other lengths")
	}
	gcd.try(t, n, m)
	gcd.gives(t, longest(), longest(), longest())
	gcd.gives(t, minus(longest()), small(0), longest())
	gcd.gives(t, longest(), power(32767, 0), small(1))
	for range 4 {
		gcd.try(t, d.sized(4096), d.sized(4096))
	}
}

// Numbers of which each remainder is as great as it may be.
func TestGcdOfManySteps(t *testing.T) {
	n, m := small(1), small(1)
	for k := 0; len(number(n).Digits) <= 700; k++ {
		n, m = m, plus(n, m)
		if k%331 == 0 {
			operationNamed("Gcd").gives(t, times(n, small(30)), times(m, small(-42)), commonOf(n, m))
		}
	}
}

// commonOf is the greatest common divisor of 30 and 42 times numbers that have none.
func commonOf(n, m *big.Int) *big.Int {
	common := int64(6)
	if new(big.Int).Rem(n, small(7)).Sign() == 0 {
		common *= 7
	}
	if new(big.Int).Rem(m, small(5)).Sign() == 0 {
		common *= 5
	}
	return small(common)
}
