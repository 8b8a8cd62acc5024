package shape_test

import (
	"math"
	"testing"

	"palaver/api"
	"palaver/shape"
	"palaver/words"
)

func TestWords(t *testing.T) {
	for _, slots := range []int{0, 1, 7, 65536} {
		if n := shape.Words(api.Header{Slots: slots}); n != 2+slots {
			t.Errorf("%d slots: %d words", slots, n)
		}
	}
}

func TestOf(t *testing.T) {
	for n, slots := range map[int]int{0: 0, 1: 1, 65535: 65535, 65536: 65536} {
		for _, f := range []api.Format{1, 2, 3, 4} {
			x, e := shape.Of(4095, f, n)
			want, err := api.Header{Class: 4095, Format: f, Slots: slots}, api.OK
			if f == api.FormatEphemeron && n == 0 {
				want, err = api.Header{}, api.ErrArg
			}
			if x != want || e != err {
				t.Errorf("Of(4095, %d, %d): %+v %d", f, n, x, e)
			}
		}
	}
	for n, want := range map[int][2]int{0: {0, 0}, 1: {1, 7}, 7: {1, 1}, 8: {1, 0}, 9: {2, 7}, 524281: {65536, 7}, 524288: {65536, 0}} {
		x, e := shape.Of(0, api.FormatBytes, n)
		if (x != api.Header{Format: api.FormatBytes, Slots: want[0], Spare: want[1]}) || e != api.OK {
			t.Errorf("%d bytes: %+v %d", n, x, e)
		}
	}
	for _, c := range []struct {
		class int
		f     api.Format
		n     int
	}{
		{-1, 1, 1}, {4096, 1, 1}, {5, 0, 1}, {5, 6, 1}, {5, 7, 1}, {5, 255, 1},
		{5, 1, -1}, {5, 1, 65537}, {5, 4, math.MaxInt}, {5, 5, -1}, {5, 5, 524289}, {5, 5, math.MaxInt}, {5, 5, math.MinInt},
	} {
		if x, e := shape.Of(c.class, c.f, c.n); x != (api.Header{}) || e != api.ErrArg {
			t.Errorf("Of(%d, %d, %d): %+v %d", c.class, c.f, c.n, x, e)
		}
	}
}

func TestOfMethod(t *testing.T) {
	for _, c := range [][4]int{
		{0, 0, 1, 0}, {0, 1, 2, 7}, {0, 8, 2, 0}, {3, 0, 4, 0}, {3, 9, 6, 7},
		{65535, 0, 65536, 0}, {65534, 8, 65536, 0}, {65534, 1, 65536, 7}, {0, 524280, 65536, 0},
	} {
		x, e := shape.OfMethod(7, c[0], c[1])
		if (x != api.Header{Class: 7, Format: api.FormatMethod, Slots: c[2], Spare: c[3]}) || e != api.OK {
			t.Errorf("OfMethod(7, %d, %d): %+v %d", c[0], c[1], x, e)
		}
	}
	for _, c := range [][3]int{
		{-1, 0, 0}, {4096, 0, 0}, {7, -1, 0}, {7, 0, -1}, {7, 65536, 0}, {7, 65535, 1}, {7, 65534, 9}, {7, 0, 524281},
		{7, math.MaxInt, 0}, {7, math.MaxInt, math.MaxInt}, {7, 0, math.MaxInt}, {7, math.MinInt, math.MinInt}, {7, -1, 9},
	} {
		if x, e := shape.OfMethod(c[0], c[1], c[2]); x != (api.Header{}) || e != api.ErrArg {
			t.Errorf("OfMethod(%d, %d, %d): %+v %d", c[0], c[1], c[2], x, e)
		}
	}
}

// Every header that is valid and neither marked nor noted suits, but for its literals.
func TestSuits(t *testing.T) {
	for f := range api.Format(8) {
		for spare := -1; spare < 9; spare++ {
			for slots := -1; slots < 5; slots++ {
				for literals := -2; literals < 6; literals++ {
					x := api.Header{Class: 5, Format: f, Spare: spare, Hash: 9, Age: 3, Slots: slots}
					_, _, e := words.Pack(x)
					want := e == api.OK && literals == 0
					if f == api.FormatMethod {
						bytes := 8*(slots-1-literals) - spare
						want = e == api.OK && literals >= 0 && literals < slots && bytes >= 0
					}
					if shape.Suits(x, literals) != want {
						t.Errorf("Suits(%+v, %d): %v", x, literals, !want)
					}
					x.Marked = true
					if shape.Suits(x, literals) {
						t.Errorf("Suits(%+v, %d)", x, literals)
					}
					x.Marked, x.Noted = false, true
					if shape.Suits(x, literals) {
						t.Errorf("Suits(%+v, %d)", x, literals)
					}
				}
			}
		}
	}
	for _, literals := range []int{math.MinInt, -1, 1, math.MaxInt} {
		if shape.Suits(api.Header{Format: api.FormatWords, Slots: 3}, literals) || shape.Suits(api.Header{Format: api.FormatMethod, Slots: 1}, literals) {
			t.Errorf("%d literals", literals)
		}
	}
}
