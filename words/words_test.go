package words_test

import (
	"math"
	"testing"

	"palaver/api"
	"palaver/words"
)

// The exact signatures: a caller may keep these functions in variables.
var (
	_ func(int64) (api.Oop, bool)                  = words.Small
	_ func(int) (api.Oop, bool)                    = words.Char
	_ func(int) (api.Oop, bool)                    = words.Object
	_ func(api.Oop) api.Tag                        = words.Tag
	_ func(api.Oop) (int64, bool)                  = words.SmallOf
	_ func(api.Oop) (int, bool)                    = words.CharOf
	_ func(api.Oop) (int, bool)                    = words.WordOf
	_ func(api.Header) (uint64, uint64, api.Errno) = words.Pack
	_ func(a, b uint64) (api.Header, api.Errno)    = words.Unpack
)

const (
	leastSmall    = -1152921504606846976
	greatestSmall = 1152921504606846975
	greatestChar  = 2097151
	greatestWord  = 268435455
)

// sampleWords holds small words, the neighbours of the powers of two and of the bounds, and words spread over all bits by a fixed rule.
func sampleWords() []uint64 {
	var l []uint64
	for w := range uint64(1 << 12) {
		l = append(l, w, -w)
	}
	for bit := range 64 {
		for d := range uint64(33) {
			l = append(l, 1<<bit+d-16)
		}
	}
	for _, n := range []uint64{greatestChar, greatestChar + 1, greatestWord, greatestWord + 1} {
		for low := range uint64(8) {
			l = append(l, 8*n+low)
		}
	}
	w := uint64(1)
	for range 20000 {
		w = w*6364136223846793005 + 1442695040888963407
		l = append(l, w, w>>33, w>>40, w<<3, w>>33<<3, w>>40<<3|2, w<<3|1)
	}
	return l
}

// tagByDocument tells a tag from the number that the word is, without bits.
func tagByDocument(w uint64) api.Tag {
	rest, number := w%8, w/8
	switch {
	case w == 0:
		return 0
	case rest == 1:
		return 1
	case rest == 2 && number <= greatestChar:
		return 2
	case rest == 0 && number >= 1 && number <= greatestWord:
		return 3
	}
	return 4
}

func TestSmall(t *testing.T) {
	for _, c := range []struct {
		n  int64
		o  api.Oop
		is bool
	}{
		{0, 1, true},
		{1, 9, true},
		{-1, 18446744073709551609, true},
		{-2, 18446744073709551601, true},
		{97, 777, true},
		{greatestSmall, 9223372036854775801, true},
		{greatestSmall - 1, 9223372036854775793, true},
		{leastSmall, 9223372036854775809, true},
		{leastSmall + 1, 9223372036854775817, true},
		{greatestSmall + 1, 0, false},
		{leastSmall - 1, 0, false},
		{math.MaxInt64, 0, false},
		{math.MinInt64, 0, false},
	} {
		if o, is := words.Small(c.n); o != c.o || is != c.is {
			t.Errorf("Small(%d): %d %t, not %d %t", c.n, o, is, c.o, c.is)
		}
	}
}

func TestSmallOf(t *testing.T) {
	for _, c := range []struct {
		o  api.Oop
		n  int64
		is bool
	}{
		{1, 0, true},
		{9, 1, true},
		{18446744073709551609, -1, true},
		{9223372036854775801, greatestSmall, true},
		{9223372036854775809, leastSmall, true},
		{0, 0, false},
		{2, 0, false},
		{3, 0, false},
		{5, 0, false},
		{8, 0, false},
		{16, 0, false},
		{18446744073709551615, 0, false},
		{18446744073709551608, 0, false},
	} {
		if n, is := words.SmallOf(c.o); n != c.n || is != c.is {
			t.Errorf("SmallOf(%d): %d %t, not %d %t", c.o, n, is, c.n, c.is)
		}
	}
}

func TestChar(t *testing.T) {
	for _, c := range []struct {
		code int
		o    api.Oop
		is   bool
	}{
		{0, 2, true},
		{1, 10, true},
		{97, 778, true},
		{greatestChar, 16777210, true},
		{greatestChar + 1, 0, false},
		{-1, 0, false},
		{math.MaxInt, 0, false},
		{math.MinInt, 0, false},
	} {
		if o, is := words.Char(c.code); o != c.o || is != c.is {
			t.Errorf("Char(%d): %d %t, not %d %t", c.code, o, is, c.o, c.is)
		}
	}
}

func TestCharOf(t *testing.T) {
	for _, c := range []struct {
		o    api.Oop
		code int
		is   bool
	}{
		{2, 0, true},
		{10, 1, true},
		{778, 97, true},
		{16777210, greatestChar, true},
		{16777218, 0, false},
		{1<<32 + 2, 0, false},
		{18446744073709551610, 0, false},
		{0, 0, false},
		{1, 0, false},
		{6, 0, false},
		{8, 0, false},
	} {
		if code, is := words.CharOf(c.o); code != c.code || is != c.is {
			t.Errorf("CharOf(%d): %d %t, not %d %t", c.o, code, is, c.code, c.is)
		}
	}
}

func TestObject(t *testing.T) {
	for _, c := range []struct {
		word int
		o    api.Oop
		is   bool
	}{
		{1, 8, true},
		{2, 16, true},
		{greatestWord, 2147483640, true},
		{greatestWord + 1, 0, false},
		{0, 0, false},
		{-1, 0, false},
		{math.MaxInt, 0, false},
		{math.MinInt, 0, false},
	} {
		if o, is := words.Object(c.word); o != c.o || is != c.is {
			t.Errorf("Object(%d): %d %t, not %d %t", c.word, o, is, c.o, c.is)
		}
	}
}

func TestWordOf(t *testing.T) {
	for _, c := range []struct {
		o    api.Oop
		word int
		is   bool
	}{
		{8, 1, true},
		{16, 2, true},
		{2147483640, greatestWord, true},
		{2147483648, 0, false},
		{1<<40 + 8, 0, false},
		{18446744073709551608, 0, false},
		{0, 0, false},
		{1, 0, false},
		{2, 0, false},
		{4, 0, false},
		{9, 0, false},
	} {
		if word, is := words.WordOf(c.o); word != c.word || is != c.is {
			t.Errorf("WordOf(%d): %d %t, not %d %t", c.o, word, is, c.word, c.is)
		}
	}
}

func TestTag(t *testing.T) {
	for _, c := range []struct {
		o   api.Oop
		tag api.Tag
	}{
		{0, api.TagNone},
		{1, api.TagSmall},
		{18446744073709551609, api.TagSmall},
		{9223372036854775801, api.TagSmall},
		{9223372036854775809, api.TagSmall},
		{2, api.TagChar},
		{16777210, api.TagChar},
		{16777218, api.TagBad},
		{8, api.TagObject},
		{16, api.TagObject},
		{2147483640, api.TagObject},
		{2147483648, api.TagBad},
		{3, api.TagBad},
		{4, api.TagBad},
		{5, api.TagBad},
		{6, api.TagBad},
		{7, api.TagBad},
		{18446744073709551615, api.TagBad},
		{18446744073709551608, api.TagBad},
		{18446744073709551610, api.TagBad},
	} {
		if tag := words.Tag(c.o); tag != c.tag {
			t.Errorf("Tag(%d): %d, not %d", c.o, tag, c.tag)
		}
	}
}

// What holds: every word has exactly one tag, and only the function of that tag reads it.
func TestEveryWordHasOneTag(t *testing.T) {
	for _, w := range sampleWords() {
		o := api.Oop(w)
		tag := words.Tag(o)
		if tag != tagByDocument(w) {
			t.Fatalf("Tag(%d): %d, not %d", w, tag, tagByDocument(w))
		}
		n, small := words.SmallOf(o)
		code, char := words.CharOf(o)
		word, object := words.WordOf(o)
		if small != (tag == api.TagSmall) || char != (tag == api.TagChar) || object != (tag == api.TagObject) {
			t.Fatalf("%d has the tag %d: SmallOf %t, CharOf %t, WordOf %t", w, tag, small, char, object)
		}
		if !small && n != 0 || !char && code != 0 || !object && word != 0 {
			t.Fatalf("%d: %d, %d, %d beside false", w, n, code, word)
		}
	}
}

// What holds: a word that is read as a number is made of that number again.
func TestWordsGoRound(t *testing.T) {
	for _, w := range sampleWords() {
		o := api.Oop(w)
		if n, is := words.SmallOf(o); is {
			if again, is := words.Small(n); again != o || !is {
				t.Fatalf("Small(%d): %d %t, not %d", n, again, is, o)
			}
		}
		if code, is := words.CharOf(o); is {
			if again, is := words.Char(code); again != o || !is {
				t.Fatalf("Char(%d): %d %t, not %d", code, again, is, o)
			}
		}
		if word, is := words.WordOf(o); is {
			if again, is := words.Object(word); again != o || !is {
				t.Fatalf("Object(%d): %d %t, not %d", word, again, is, o)
			}
		}
	}
}

// What holds: a number that is made a word is read again; the words of one kind have its tag.
func TestNumbersGoRound(t *testing.T) {
	for _, w := range sampleWords() {
		n := int64(w)
		o, is := words.Small(n)
		if is != (n >= leastSmall && n <= greatestSmall) {
			t.Fatalf("Small(%d): %t", n, is)
		}
		if again, ok := words.SmallOf(o); is && (again != n || !ok || words.Tag(o) != api.TagSmall) {
			t.Fatalf("SmallOf(%d): %d %t, not %d", o, again, ok, n)
		}
		o, is = words.Char(int(n))
		if is != (n >= 0 && n <= greatestChar) {
			t.Fatalf("Char(%d): %t", n, is)
		}
		if again, ok := words.CharOf(o); is && (again != int(n) || !ok || words.Tag(o) != api.TagChar) {
			t.Fatalf("CharOf(%d): %d %t, not %d", o, again, ok, n)
		}
		o, is = words.Object(int(n))
		if is != (n >= 1 && n <= greatestWord) {
			t.Fatalf("Object(%d): %t", n, is)
		}
		if again, ok := words.WordOf(o); is && (again != int(n) || !ok || words.Tag(o) != api.TagObject) {
			t.Fatalf("WordOf(%d): %d %t, not %d", o, again, ok, n)
		}
	}
}

// What holds: compared as signed words, the oops of SmallIntegers have the order of the numbers.
func TestSmallsAreOrdered(t *testing.T) {
	numbers := []int64{leastSmall, leastSmall + 1, -1 << 59, -1 << 31, -1000, -2, -1, 0, 1, 2, 1000, 1 << 31, 1 << 59, greatestSmall - 1, greatestSmall}
	for i, low := range numbers {
		for _, high := range numbers[i+1:] {
			a, _ := words.Small(low)
			b, _ := words.Small(high)
			if int64(a) >= int64(b) {
				t.Errorf("%d is below %d, but %d is not below %d", low, high, int64(a), int64(b))
			}
		}
	}
}
