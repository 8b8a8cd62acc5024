package largeint_test

import (
	"strings"
	"testing"
	"unsafe"

	"palaver/api"
	"palaver/largeint"
)

// own is a text in memory of its own, which may be written over, and that memory.
func own(s string) (string, []byte) {
	l := []byte(s)
	return unsafe.String(unsafe.SliceData(l), len(l)), l
}

// overlap tells whether two texts of more than one byte share memory. (Of shorter ones the language keeps one copy for all.)
func overlap(s, u string) bool {
	if len(s) < 2 || len(u) < 2 {
		return false
	}
	x, y := uintptr(unsafe.Pointer(unsafe.StringData(s))), uintptr(unsafe.Pointer(unsafe.StringData(u)))
	return x < y+uintptr(len(u)) && y < x+uintptr(len(s))
}

// scribble writes over a result of more than one byte.
func scribble(s string) {
	if len(s) > 1 {
		for k := range len(s) {
			unsafe.Slice(unsafe.StringData(s), len(s))[k] ^= 0x55
		}
	}
}

// calls are all functions with results that have memory: what they make of two numbers or texts.
func calls() map[string]func(a, b api.Large) []string {
	m := map[string]func(a, b api.Large) []string{
		"Shift 0":  func(a, b api.Large) []string { x, _ := largeint.Shift(a, 0); return []string{x.Digits} },
		"Shift 3":  func(a, b api.Large) []string { x, _ := largeint.Shift(b, 3); return []string{x.Digits} },
		"Shift 32": func(a, b api.Large) []string { x, _ := largeint.Shift(b, 32); return []string{x.Digits} },
		"Shift -8": func(a, b api.Large) []string { x, _ := largeint.Shift(a, -8); return []string{x.Digits} },
		"Text":     func(a, b api.Large) []string { s, _ := largeint.Text(a, 16); return []string{s} },
		"Of":       func(a, b api.Large) []string { return []string{largeint.Of(-1 << 60).Digits} },
	}
	for _, o := range operations() {
		m[o.name] = func(a, b api.Large) []string { x, _ := o.f(a, b); return []string{x.Digits} }
	}
	for _, v := range divisions() {
		m[v.name] = func(a, b api.Large) []string { q, r, _ := v.f(a, b); return []string{q.Digits, r.Digits} }
	}
	return m
}

func copies(l []string) []string {
	var c []string
	for _, s := range l {
		c = append(c, strings.Clone(s))
	}
	return c
}

func unlike(l, m []string) bool {
	return strings.Join(l, "|") != strings.Join(m, "|")
}

// pairs are numbers that make a function return one of them, or nothing, or something else.
func pairs() [][2]api.Large {
	long := number(power(777, 12345))
	return [][2]api.Large{
		{long, {}}, {{}, long}, {long, long}, {long, largeint.Of(1)}, {largeint.Of(-1), long}, {long, number(minus(power(777, 12345)))},
		{number(minus(power(777, 12345))), number(power(900, 5))}, {long, number(power(900, 5))}, {number(power(900, 5)), long}, {largeint.Of(-70000), largeint.Of(300)}, {long, largeint.Of(-300)},
	}
}

// A result shares no memory with arguments, with another result, or with what is kept; arguments stay as they were.
func TestResultsAreNewMemory(t *testing.T) {
	for name, f := range calls() {
		for k, p := range pairs() {
			a, memoryOfA := own(p[0].Digits)
			b, memoryOfB := own(p[1].Digits)
			x, y := api.Large{Neg: p[0].Neg, Digits: a}, api.Large{Neg: p[1].Neg, Digits: b}
			first := f(x, y)
			want := copies(first)
			if x != p[0] || y != p[1] {
				t.Fatalf("%s of pair %d: the arguments have changed", name, k)
			}
			second := f(x, y)
			if unlike(second, want) {
				t.Fatalf("%s of pair %d: the second result is another one", name, k)
			}
			apart(t, name, append(append(copies(nil), first...), second...), a, b)
			for i := range memoryOfA {
				memoryOfA[i] ^= 0xff
			}
			for i := range memoryOfB {
				memoryOfB[i] ^= 0xff
			}
			if unlike(first, want) || unlike(second, want) {
				t.Fatalf("%s of pair %d: a result changes with an argument", name, k)
			}
			for _, s := range first {
				scribble(s)
			}
			if unlike(second, want) {
				t.Fatalf("%s of pair %d: a result changes with another one", name, k)
			}
			if third := f(p[0], p[1]); unlike(third, want) {
				t.Fatalf("%s of pair %d: what is kept changes with a result", name, k)
			}
		}
	}
}

// apart tells of memory that results share with one another, or with arguments.
func apart(t *testing.T, name string, results []string, arguments ...string) {
	t.Helper()
	for k, s := range results {
		for _, u := range append(results[k+1:len(results):len(results)], arguments...) {
			if overlap(s, u) {
				t.Fatalf("%s: shared memory", name)
			}
		}
	}
}

// Parse keeps nothing of its text.
func TestParsedNumbersAreNewMemory(t *testing.T) {
	for _, s := range []string{"123456789012345678901234567890", "-FFFFFFFFFFFFFFFFFFFFFFFFFFFF", "10"} {
		text, memory := own(s)
		a, e := largeint.Parse(text, 16)
		if e != api.OK || text != s || overlap(a.Digits, text) {
			t.Fatal(s, e)
		}
		want := api.Large{Neg: a.Neg, Digits: strings.Clone(a.Digits)}
		for k := range memory {
			memory[k] = '7'
		}
		again, _ := largeint.Parse(s, 16)
		scribble(again.Digits)
		if a != want {
			t.Errorf("%s: %s, not %s", s, told(a), told(want))
		}
		if again, e := largeint.Parse(s, 16); again != want || e != api.OK {
			t.Errorf("%s: %s %d", s, told(again), e)
		}
	}
}

// Functions that look only leave their arguments as they are, too.
func TestArgumentsStay(t *testing.T) {
	for _, p := range pairs() {
		a, b := api.Large{Neg: p[0].Neg, Digits: strings.Clone(p[0].Digits)}, api.Large{Neg: p[1].Neg, Digits: strings.Clone(p[1].Digits)}
		largeint.Cmp(a, b)
		largeint.Small(a)
		largeint.Check(a)
		largeint.Bits(b)
		if a != p[0] || b != p[1] {
			t.Error("an argument has changed")
		}
	}
}
