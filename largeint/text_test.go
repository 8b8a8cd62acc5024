package largeint_test

import (
	"math"
	"math/big"
	"strings"
	"testing"

	"palaver/api"
	"palaver/largeint"
)

// otherBases are numbers that are no bases.
func otherBases() []int {
	return []int{0, 1, 37, 38, 62, 64, -1, -2, -10, -16, 256, 1<<32 + 10, math.MaxInt, math.MinInt}
}

// written is a number to a base, by package math/big.
func written(n *big.Int, base int) string {
	return strings.ToUpper(n.Text(base))
}

// parsed says literally what the document says of a text.
func parsed(s string, base int) (api.Large, api.Errno) {
	if base < 2 || base > 36 {
		return api.Large{}, 1
	}
	digits := s
	if s != "" && s[0] == '-' {
		digits = s[1:]
	}
	for k := range len(digits) {
		if !strings.Contains("0123456789ABCDEFGHIJKLMNOPQRSTUVWXYZ"[:base], digits[k:k+1]) {
			return api.Large{}, 93
		}
	}
	if digits == "" || digits[0] == '0' && s != "0" {
		return api.Large{}, 93
	}
	n, is := new(big.Int).SetString(s, base)
	if !is {
		panic(s)
	}
	if tooLong(n) {
		return api.Large{}, 92
	}
	return number(n), 0
}

func parses(t *testing.T, s string, base int) {
	t.Helper()
	want, err := parsed(s, base)
	if a, e := largeint.Parse(s, base); a != want || e != err {
		t.Fatalf("Parse(%.200q, %d): %s %d, not %s %d", s, base, told(a), e, told(want), err)
	}
}

func TestParseOfNumbers(t *testing.T) {
	for base := 2; base <= 36; base++ {
		for _, n := range samples() {
			s := written(n, base)
			if a, e := largeint.Parse(s, base); a != number(n) || e != api.OK {
				t.Fatalf("Parse(%.200q, %d): %s %d", s, base, told(a), e)
			}
		}
		for n := int64(-100); n <= 5000; n++ {
			s := written(small(n), base)
			if a, e := largeint.Parse(s, base); a != number(small(n)) || e != api.OK {
				t.Fatalf("Parse(%q, %d): %s %d", s, base, told(a), e)
			}
		}
	}
}

// All texts of up to four characters out of some, to some bases.
func TestParseOfAllShortTexts(t *testing.T) {
	alphabet := []string{"-", "+", "0", "1", "2", "7", "9", "A", "F", "Z", "a", "z", " ", "\x00", "\x80", "\xff", "_", "."}
	l := []string{""}
	for range 4 {
		for _, s := range l {
			for _, base := range []int{2, 8, 10, 16, 36, 1, 37} {
				parses(t, s, base)
			}
		}
		var longer []string
		for _, s := range l {
			for _, c := range alphabet {
				longer = append(longer, s+c)
			}
		}
		l = longer
	}
}

// Each byte at each place of a text.
func TestParseOfEachByte(t *testing.T) {
	for base := 2; base <= 36; base++ {
		for c := range 256 {
			b := string([]byte{byte(c)})
			parses(t, b, base)
			parses(t, "-"+b, base)
			parses(t, b+"1", base)
			parses(t, "-1"+b, base)
			parses(t, "1"+b+"1", base)
			parses(t, strings.Repeat("1", 40)+b, base)
			parses(t, strings.Repeat("1", 40)+b+strings.Repeat("10", 20), base)
		}
	}
}

func TestParseOfWhatIsNoNumber(t *testing.T) {
	for _, s := range []string{
		"", "-", "--", "-0", "00", "000", "-00", "01", "-01", "007", "+1", "+0", "+", "-+1", "--1", "1-", "1-1", "-1-", "1+", "0-", "0 ", " 0",
		" ", " 1", "1 ", "- 1", "1 1", "\t1", "1\n", "1\x00", "\x001", "1_000", "1,000", "1.0", "1e5", "0x1", "10r1", "1\xff", "\x801", "\xc2\xb2", "\u0661", "\uff11", "1\u0662", "\u22121",
	} {
		for base := 2; base <= 10; base++ {
			if a, e := largeint.Parse(s, base); a != (api.Large{}) || e != api.ErrLargeText {
				t.Errorf("Parse(%q, %d): %v %d", s, base, a, e)
			}
		}
	}
	for base := 2; base <= 36; base++ {
		digits := "0123456789ABCDEFGHIJKLMNOPQRSTUVWXYZ"
		for k := range digits {
			a, e := largeint.Parse(digits[k:k+1], base)
			if k < base && (a != largeint.Of(int64(k)) || e != api.OK) || k >= base && (a != (api.Large{}) || e != api.ErrLargeText) {
				t.Errorf("Parse(%q, %d): %v %d", digits[k:k+1], base, a, e)
			}
		}
		for c := 'a'; c <= 'z'; c++ {
			if a, e := largeint.Parse(string(c), base); a != (api.Large{}) || e != api.ErrLargeText {
				t.Errorf("Parse(%q, %d): %v %d", c, base, a, e)
			}
		}
	}
}

// A base that there is not is told ahead of all that is wrong with the text.
func TestParseToOtherBases(t *testing.T) {
	for _, base := range otherBases() {
		for _, s := range []string{"", "0", "1", "-1", "007", "ff", "Z", strings.Repeat("1", 40000)} {
			if a, e := largeint.Parse(s, base); a != (api.Large{}) || e != 1 {
				t.Errorf("Parse(%.20q, %d): %v %d", s, base, a, e)
			}
		}
	}
}

// Texts of numbers with 4096 digits, and with more; what is no text of a number is told ahead of that.
func TestParseAtTheGreatestLength(t *testing.T) {
	for base := 2; base <= 36; base++ {
		most, over := written(longest(), base), written(power(32768, 0), base)
		for sign, want := range map[string]api.Large{"": number(longest()), "-": number(minus(longest()))} {
			if a, e := largeint.Parse(sign+most, base); a != want || e != api.OK {
				t.Errorf("Parse of the longest number to %d: %s %d", base, told(a), e)
			}
			for _, s := range []string{over, most + "0", over + "1", most + most, strings.Repeat("1", 70000), "1" + strings.Repeat("0", 32768)} {
				if a, e := largeint.Parse(sign+s, base); a != (api.Large{}) || e != 92 {
					t.Errorf("Parse of %d characters to %d: %s %d", len(s), base, told(a), e)
				}
				for _, wrong := range []string{"-", " ", "a", "\xff", "_"} {
					if a, e := largeint.Parse(sign+s+wrong, base); a != (api.Large{}) || e != 93 {
						t.Errorf("Parse of %d characters and %q to %d: %s %d", len(s), wrong, base, told(a), e)
					}
				}
				if a, e := largeint.Parse(sign+"0"+s, base); a != (api.Large{}) || e != 93 {
					t.Errorf("Parse of 0 and %d characters to %d: %s %d", len(s), base, told(a), e)
				}
			}
		}
	}
}

// A text that is very long is refused without being computed.
func TestParseOfVeryLongTexts(t *testing.T) {
	s := strings.Repeat("7", 20000000)
	if a, e := largeint.Parse(s, 10); a != (api.Large{}) || e != 92 {
		t.Error(told(a), e)
	}
	if a, e := largeint.Parse(s+"A", 10); a != (api.Large{}) || e != 93 {
		t.Error(told(a), e)
	}
	if a, e := largeint.Parse(strings.Repeat("0", 20000000), 10); a != (api.Large{}) || e != 93 {
		t.Error(told(a), e)
	}
}

func TestText(t *testing.T) {
	for base := 2; base <= 36; base++ {
		for _, n := range samples() {
			if s, e := largeint.Text(number(n), base); s != written(n, base) || e != api.OK {
				t.Fatalf("Text(%s, %d): %.200q %d", told(number(n)), base, s, e)
			}
		}
		for n := int64(-100); n <= 5000; n++ {
			if s, e := largeint.Text(number(small(n)), base); s != written(small(n), base) || e != api.OK {
				t.Fatalf("Text(%d, %d): %q %d", n, base, s, e)
			}
		}
		if s, e := largeint.Text(api.Large{}, base); s != "0" || e != api.OK {
			t.Errorf("Text(0, %d): %q %d", base, s, e)
		}
	}
}

// Zeros at the end and within, through the pieces in which digits are read and written, and next to them.
func TestTextsWithZeros(t *testing.T) {
	for base := 2; base <= 36; base++ {
		for zeros := range 90 {
			for _, s := range []string{"1" + strings.Repeat("0", zeros), "-1" + strings.Repeat("0", zeros) + "1", "1" + strings.Repeat("0", zeros) + "1" + strings.Repeat("0", zeros), "101" + strings.Repeat("0", 2*zeros) + "101"} {
				a, e := largeint.Parse(s, base)
				want, _ := new(big.Int).SetString(s, base)
				if a != number(want) || e != api.OK {
					t.Fatalf("Parse(%q, %d): %s %d", s, base, told(a), e)
				}
				if again, e := largeint.Text(a, base); again != s || e != api.OK {
					t.Fatalf("Text of %q to %d: %q %d", s, base, again, e)
				}
			}
		}
	}
}

func TestTextToOtherBases(t *testing.T) {
	for _, base := range otherBases() {
		for _, n := range []*big.Int{small(0), small(1), small(-300), longest()} {
			if s, e := largeint.Text(number(n), base); s != "" || e != 1 {
				t.Errorf("Text(%s, %d): %q %d", told(number(n)), base, s, e)
			}
		}
	}
}

// What holds (and T2): Parse after Text returns the number.
func TestNumbersGoRound(t *testing.T) {
	d := draw(41)
	for range 1500 {
		n, base := d.some(), d.below(35)+2
		s, e := largeint.Text(number(n), base)
		if e != api.OK {
			t.Fatal(told(number(n)), base, e)
		}
		if a, e := largeint.Parse(s, base); a != number(n) || e != api.OK {
			t.Fatalf("Parse(Text(%s, %d)): %s %d", told(number(n)), base, told(a), e)
		}
	}
}

// What holds (and T2): Text after Parse returns the text.
func TestTextsGoRound(t *testing.T) {
	d := draw(43)
	for range 3000 {
		base := d.below(35) + 2
		var l []byte
		if d.below(2) == 0 {
			l = append(l, '-')
		}
		l = append(l, "123456789ABCDEFGHIJKLMNOPQRSTUVWXYZ"[d.below(base-1)])
		for range d.below(150) {
			l = append(l, "0123456789ABCDEFGHIJKLMNOPQRSTUVWXYZ"[d.below(base)])
		}
		a, e := largeint.Parse(string(l), base)
		if e != api.OK || largeint.Check(a) != api.OK {
			t.Fatalf("Parse(%q, %d): %s %d", l, base, told(a), e)
		}
		if s, e := largeint.Text(a, base); s != string(l) || e != api.OK {
			t.Fatalf("Text(Parse(%q, %d)): %q %d", l, base, s, e)
		}
	}
}
