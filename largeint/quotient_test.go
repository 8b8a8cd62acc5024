package largeint_test

import (
	"math/big"
	"testing"

	"palaver/largeint"
)

func TestDivisionsOfSmallNumbers(t *testing.T) {
	div, quo := divisions()[0], divisions()[1]
	for _, c := range [][6]int64{
		{-7, 2, -4, 1, -3, -1}, {7, -2, -4, -1, -3, 1}, {7, 2, 3, 1, 3, 1}, {-7, -2, 3, -1, 3, -1},
		{6, -3, -2, 0, -2, 0}, {-6, 3, -2, 0, -2, 0}, {6, 3, 2, 0, 2, 0}, {-6, -3, 2, 0, 2, 0},
		{0, 5, 0, 0, 0, 0}, {0, -5, 0, 0, 0, 0}, {5, 5, 1, 0, 1, 0}, {-5, 5, -1, 0, -1, 0}, {5, -5, -1, 0, -1, 0}, {-5, -5, 1, 0, 1, 0},
		{1, 5, 0, 1, 0, 1}, {-1, 5, -1, 4, 0, -1}, {1, -5, -1, -4, 0, 1}, {-1, -5, 0, -1, 0, -1},
		{-256, 1, -256, 0, -256, 0}, {255, -1, -255, 0, -255, 0}, {-65536, 256, -256, 0, -256, 0}, {-65537, 256, -257, 255, -256, -1},
		{1 << 40, -(1<<40 + 1), -1, -1, 0, 1 << 40}, {-1 << 63, -1 << 62, 2, 0, 2, 0}, {1<<63 - 1, -1 << 63, -1, -1, 0, 1<<63 - 1},
	} {
		div.gives(t, small(c[0]), small(c[1]), small(c[2]), small(c[3]))
		quo.gives(t, small(c[0]), small(c[1]), small(c[4]), small(c[5]))
	}
}

// The quotient of the least number of 64 bits by -1 has no place in 64 bits.
func TestDivisionBeyond64Bits(t *testing.T) {
	for _, v := range divisions() {
		v.gives(t, small(-1<<63), small(-1), power(63, 0), small(0))
	}
}

func TestDivisionsOnSamples(t *testing.T) {
	l := samples()
	for _, v := range divisions() {
		for _, n := range l {
			for _, m := range l {
				if m.Sign() != 0 {
					v.try(t, n, m)
				}
			}
		}
	}
}

// Divisors of one digit, of one word, of several words, as long as the dividend and longer, with all pairs of signs.
func TestDivisionsOnDrawnNumbers(t *testing.T) {
	for k, v := range divisions() {
		d := draw(50 + k)
		for _, longest := range []int{1, 2, 4, 5, 8, 12, 13, 40, 60} {
			for range 600 {
				n, m := d.sized(d.below(50)), d.sized(d.below(longest)+1)
				if m.Sign() != 0 {
					v.try(t, n, m)
				}
			}
		}
		for range 60 {
			n, m := d.sized(d.below(4097)), d.sized(d.below(4096)+1)
			if m.Sign() != 0 {
				v.try(t, n, m)
			}
		}
	}
}

// Dividends that are made of a quotient, a divisor and a remainder: without one, the least, the greatest.
func TestDivisionsOfProducts(t *testing.T) {
	d := draw(77)
	for range 1500 {
		q, m := new(big.Int).Abs(d.sized(d.below(30))), new(big.Int).Abs(d.sized(d.below(30)+1))
		if m.Sign() == 0 {
			continue
		}
		product := times(q, m)
		signs(t, product, m)
		signs(t, plus(product, small(1)), m)
		signs(t, plus(product, new(big.Int).Sub(m, small(1))), m)
		for _, v := range divisions() {
			v.gives(t, product, m, q, small(0))
		}
	}
}

// signs divides with all four pairs of signs.
func signs(t *testing.T, n, m *big.Int) {
	t.Helper()
	for _, v := range divisions() {
		v.try(t, n, m)
		v.try(t, minus(n), m)
		v.try(t, n, minus(m))
		v.try(t, minus(n), minus(m))
	}
}

func TestDivisionByLongerAndEqualNumbers(t *testing.T) {
	div, quo := divisions()[0], divisions()[1]
	for _, n := range samples() {
		if n.Sign() <= 0 || n.BitLen() > 32000 {
			continue
		}
		longer := times(n, power(40, 1))
		div.gives(t, n, longer, small(0), n)
		div.gives(t, minus(n), longer, small(-1), new(big.Int).Sub(longer, n))
		div.gives(t, n, minus(longer), small(-1), new(big.Int).Sub(n, longer))
		div.gives(t, minus(n), minus(longer), small(0), minus(n))
		quo.gives(t, n, longer, small(0), n)
		quo.gives(t, minus(n), longer, small(0), minus(n))
		quo.gives(t, n, minus(longer), small(0), n)
		quo.gives(t, minus(n), minus(longer), small(0), minus(n))
		for _, v := range divisions() {
			v.gives(t, n, n, small(1), small(0))
			v.gives(t, minus(n), n, small(-1), small(0))
			v.gives(t, n, minus(n), small(-1), small(0))
			v.gives(t, minus(n), minus(n), small(1), small(0))
		}
	}
}

// Quotients whose words are all ones.
func TestQuotientsOfOnes(t *testing.T) {
	for _, m := range samples() {
		if m.Sign() <= 0 || m.BitLen() > 300 {
			continue
		}
		for words := uint(1); words < 6; words++ {
			ones := power(32*words, -1)
			product := times(ones, m)
			for _, v := range divisions() {
				v.gives(t, product, m, ones, small(0))
				v.gives(t, plus(product, new(big.Int).Sub(m, small(1))), m, ones, new(big.Int).Sub(m, small(1)))
			}
			signs(t, product, m)
			signs(t, plus(product, m), m)
		}
	}
	signs(t, power(128, -1), power(64, 0))
	signs(t, power(200, 0), power(100, -1))
}

// farOff is by how much the first guess of the quotient's highest word is too great: what the two highest words of the dividend and the highest one of the divisor give, when this one's highest bit is set, and at most a word of ones.
func farOff(n, m *big.Int) int64 {
	shift := uint(32-m.BitLen()%32) % 32
	n, m = new(big.Int).Lsh(n, shift), new(big.Int).Lsh(m, shift)
	words := uint(m.BitLen()/32) - 1
	guess := new(big.Int).Rsh(n, 32*words)
	guess.Div(guess, new(big.Int).Rsh(m, 32*words))
	if guess.Cmp(power(32, -1)) > 0 {
		guess = power(32, -1)
	}
	return guess.Sub(guess, new(big.Int).Div(n, m)).Int64()
}

// Divisions of three words by two, of which the first guess is right, and too great by one and by two.
func TestGuessesThatAreTooGreat(t *testing.T) {
	for _, c := range []struct {
		n, m *big.Int
		off  int64
	}{
		{hex("00000003 00000000 80000000"), hex("20000000 00000001"), 0},
		{hex("7fffffff ffffffff ffffffff"), hex("80000000 00000000"), 0},
		{hex("80000000 00000000 00000000"), hex("80000000 00000001"), 0},
		{hex("80000000 fffffffe ffffffff"), hex("80000000 ffffffff"), 0},
		{hex("ffffffff 00000000 00000000"), hex("ffffffff ffffffff"), 0},
		{hex("00000001 00000000 00000000"), hex("80000000 00000001"), 1},
		{hex("7fffffff 00000000 00000000"), hex("80000000 00000001"), 1},
		{hex("80000000 00000000 00000000"), hex("80000000 ffffffff"), 1},
		{hex("fffffffe ffffffff 00000000"), hex("ffffffff ffffffff"), 1},
		{hex("7fffffff 00000000 00000000"), hex("80000000 ffffffff"), 2},
		{hex("7fffffff 80000000 00000000"), hex("80000000 ffffffff"), 2},
		{hex("7ffffffe 80000000 00000000"), hex("80000000 ffffffff"), 2},
		{hex("1fffffff e0000000 00000000"), hex("20000000 3fffffff"), 2},
		{hex("1fffffff e0000000 00000000 00000000"), hex("20000000 3fffffff 00000001"), 2},
	} {
		if off := farOff(c.n, c.m); off != c.off {
			t.Errorf("%s by %s: the guess is too great by %d, not %d", c.n.Text(16), c.m.Text(16), off, c.off)
		}
		signs(t, c.n, c.m)
	}
}

// Guesses of all kinds, also of words in the middle of a quotient, and such that a second word of the divisor doesn't yet put right.
func TestManyGuesses(t *testing.T) {
	for _, c := range [][2]*big.Int{
		{hex("00008000 00000000 00000003"), hex("00002000 00000000 00000001")},
		{hex("80000000 00000000 00000003"), hex("20000000 00000000 00000001")},
		{hex("00007fff 00008000 00000000 00000000"), hex("00008000 00000000 00000001")},
		{hex("7fffffff 80000000 00000000 00000000"), hex("80000000 00000000 00000001")},
		{hex("80000000 fffffffe 00000000"), hex("80000000 0000ffff")},
		{hex("80000000 0000fffe 00000000 00000000"), hex("80000000 0000ffff ffffffff")},
		{hex("00000001 ffffffff fffffffe ffffffff 00000000 00000000 00000000"), hex("80000000 ffffffff ffffffff ffffffff")},
	} {
		signs(t, c[0], c[1])
		for _, low := range []uint{32, 64, 96, 160} {
			signs(t, new(big.Int).Lsh(c[0], low), c[1])
			signs(t, plus(new(big.Int).Lsh(c[0], low), power(low, -1)), c[1])
			signs(t, new(big.Int).Lsh(c[0], low), plus(new(big.Int).Lsh(c[1], low-32), power(low-32, -1)))
		}
	}
	d, counts := draw(9), map[int64]int{}
	for range 4000 {
		high, low, guess := power(31, int64(d.below(9))), small(int64(d.below(1<<31))*2), small(int64(d.below(1<<31))*2+1)
		m := plus(new(big.Int).Lsh(high, 32), low)
		n := plus(new(big.Int).Lsh(times(guess, high), 32), small(int64(d.below(1<<31))<<d.below(32)))
		counts[farOff(n, m)]++
		signs(t, n, m)
		signs(t, plus(new(big.Int).Lsh(n, 64), power(63, 1)), plus(new(big.Int).Lsh(m, 32), small(7)))
	}
	if len(counts) != 3 || counts[0] == 0 || counts[1] == 0 || counts[2] == 0 {
		t.Error("not all guesses were met:", counts)
	}
}

// The longest numbers: each quotient has its place.
func TestDivisionsOfTheLongestNumbers(t *testing.T) {
	most := longest()
	for _, m := range []*big.Int{small(1), small(2), small(255), small(256), power(32, -1), power(32, 0), power(33, 1), power(16384, -1), power(16384, 1), power(32760, 0), power(32767, 0), plus(most, small(-1)), most} {
		signs(t, most, m)
		signs(t, m, most)
		signs(t, power(32767, 0), m)
	}
	if q, r, e := largeint.Div(number(minus(most)), largeint.Of(-1)); q != number(most) || r != largeint.Of(0) || e != 0 {
		t.Error(told(q), told(r), e)
	}
}
