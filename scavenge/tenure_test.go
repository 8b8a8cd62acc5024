package scavenge_test

import (
	"testing"

	"palaver/api"
)

// inPast makes objects in past with those ages: A, B, .., of 3 words each.
func inPast(r *trial, ages ...int) {
	r.Helper()
	for i, age := range ages {
		r.push(r.aged(r.object(api.Eden, byte('A'+i), 9), age))
	}
	r.flip()
}

func TestAgesAndTenures(t *testing.T) {
	for _, c := range []struct {
		tenure    int
		tenured   int
		past, old string
	}{
		{0, 4, "", "A0 B1 C14 D15"},
		{1, 3, "A1", "B1 C14 D15"},
		{2, 2, "A1 B2", "C14 D15"},
		{14, 2, "A1 B2", "C14 D15"},
		{15, 1, "A1 B2 C15", "D15"},
	} {
		r := begin(t, small())
		inPast(r, 0, 1, 14, 15)
		r.counts(c.tenure, 4, c.tenured, 0)
		r.lies(api.Past, c.past)
		r.lies(api.Old, c.old)
	}
}

// The age grows by one with each run, up to the tenure and no farther.
func TestAgeOfAnObjectThatStaysYoung(t *testing.T) {
	r := begin(t, small())
	r.push(r.object(api.Eden, 'A', 9))
	for age := range 15 {
		r.counts(15, 1, 0, 0)
		same(t, "age", r.head(r.at('A')).Age, age+1)
		same(t, "space", r.h.Space(r.at('A')), api.Past)
	}
	r.counts(15, 1, 1, 0)
	r.lies(api.Old, "A15")
}

func TestFutureSpaceThatIsJustGreatEnough(t *testing.T) {
	for _, c := range []struct {
		words     int // of A, the only object
		tenured   int
		past, old string
	}{
		{15, 0, "A1", ""}, {16, 0, "A1", ""}, {17, 1, "", "A0"}, {60, 1, "", "A0"},
	} {
		r := begin(t, small())
		r.push(r.of(api.Eden, 'A', api.FormatWords, c.words-2))
		r.counts(15, 1, c.tenured, 0)
		r.lies(api.Past, c.past)
		r.lies(api.Old, c.old)
	}
}

// What is ahead of them in the future space, copied there or made there, leaves the others less room.
func TestFutureSpaceThatFills(t *testing.T) {
	for _, c := range []struct {
		words     []int // of A, B, C ..
		made      int   // of an object that is in the future space ahead of the run
		tenured   int
		past, old string
	}{
		{[]int{10, 6, 2}, 0, 1, "A1 B1", "C0"},
		{[]int{10, 7, 2}, 0, 1, "A1 C1", "B0"},
		{[]int{10, 7, 6, 2}, 0, 2, "A1 C1", "B0 D0"},
		{[]int{17, 16}, 0, 1, "B1", "A0"},
		{[]int{9, 8, 7}, 0, 1, "A1 C1", "B0"},
		{[]int{10, 6}, 2, 1, "F0 A1", "B0"},
		{[]int{10, 4, 2}, 2, 1, "F0 A1 B1", "C0"},
		{[]int{2, 3}, 14, 1, "F0 A1", "B0"},
		{[]int{3, 2}, 14, 1, "F0 B1", "A0"},
		{[]int{2}, 16, 1, "F0", "A0"},
	} {
		r := begin(t, small())
		if c.made > 0 {
			r.of(api.Future, 'F', api.FormatBytes, 8*(c.made-2))
		}
		for i, words := range c.words {
			r.push(r.of(api.Eden, byte('A'+i), api.FormatPointers, words-2))
		}
		r.counts(15, len(c.words), c.tenured, 0)
		r.lies(api.Past, c.past)
		r.lies(api.Old, c.old)
	}
}

// What is too old takes no room of the future space.
func TestWhatIsTenuredTakesNoRoom(t *testing.T) {
	r := begin(t, small())
	r.push(r.aged(r.of(api.Eden, 'A', api.FormatWords, 7), 2), r.aged(r.of(api.Eden, 'B', api.FormatWords, 5), 1))
	r.flip()
	r.push(r.of(api.Eden, 'C', api.FormatWords, 7))
	r.counts(2, 3, 1, 0)
	r.lies(api.Past, "B2 C1")
	r.lies(api.Old, "A2")
}

// Words that were freed in the future space are none of its room.
func TestFreedWordsInTheFutureSpace(t *testing.T) {
	r := begin(t, small())
	r.succeeds(r.h.Free(r.of(api.Future, 'F', api.FormatWords, 10)))
	r.push(r.of(api.Eden, 'A', api.FormatWords, 3), r.of(api.Eden, 'B', api.FormatWords, 2))
	r.counts(1, 2, 1, 0)
	r.lies(api.Past, "B1")
	r.lies(api.Old, "A0")
}
