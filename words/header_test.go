package words_test

import (
	"math"
	"testing"

	"palaver/api"
	"palaver/words"
)

func packs(t *testing.T, h api.Header, a, b uint64) {
	t.Helper()
	if x, y, e := words.Pack(h); x != a || y != b || e != api.OK {
		t.Errorf("Pack(%+v): %d %d %d, not %d %d", h, x, y, e, a, b)
	}
	if g, e := words.Unpack(a, b); g != h || e != api.OK {
		t.Errorf("Unpack(%d, %d): %+v %d, not %+v", a, b, g, e, h)
	}
}

func packsNot(t *testing.T, h api.Header) {
	t.Helper()
	if x, y, e := words.Pack(h); x != 0 || y != 0 || e != api.ErrWordsRange {
		t.Errorf("Pack(%+v): %d %d %d", h, x, y, e)
	}
}

func unpacksNot(t *testing.T, a, b uint64) {
	t.Helper()
	if h, e := words.Unpack(a, b); h != (api.Header{}) || e != api.ErrWordsRange {
		t.Errorf("Unpack(%d, %d): %+v %d", a, b, h, e)
	}
}

// validByDocument says for each format by itself what the document says of Spare and Slots.
func validByDocument(f api.Format, spare, slots int) bool {
	if spare < 0 || spare > 7 || slots < 0 || slots > 65536 {
		return false
	}
	switch f {
	case 1, 2, 4:
		return spare == 0
	case 3:
		return spare == 0 && slots >= 1
	case 5:
		return spare == 0 || slots >= 1
	case 6:
		return slots >= 1 && (spare == 0 || slots >= 2)
	}
	return false
}

func TestErrorHasItsNumber(t *testing.T) {
	if _, _, e := words.Pack(api.Header{}); e != 10 {
		t.Error(e)
	}
	if _, e := words.Unpack(0, 0); e != 10 {
		t.Error(e)
	}
}

func TestExamplesOfHeaders(t *testing.T) {
	packs(t, api.Header{Class: 5, Format: 2, Hash: 1, Slots: 3}, 270341, 3)
	packsNot(t, api.Header{Class: 5, Format: 2, Hash: 1, Slots: 3, Spare: 1})
	unpacksNot(t, 0, 0)
}

// The places of the fields, each one alone at its bounds.
func TestFieldsAtTheirBounds(t *testing.T) {
	packs(t, api.Header{Format: 5}, 20480, 0)
	packs(t, api.Header{Format: 5, Class: 1}, 20481, 0)
	packs(t, api.Header{Format: 5, Class: 4095}, 24575, 0)
	packs(t, api.Header{Format: 1}, 4096, 0)
	packs(t, api.Header{Format: 6, Slots: 1}, 24576, 1)
	packs(t, api.Header{Format: 5, Spare: 1, Slots: 1}, 20480+32768, 1)
	packs(t, api.Header{Format: 5, Spare: 7, Slots: 1}, 20480+7*32768, 1)
	packs(t, api.Header{Format: 5, Hash: 1}, 20480+262144, 0)
	packs(t, api.Header{Format: 5, Hash: 4194303}, 20480+4194303*262144, 0)
	packs(t, api.Header{Format: 5, Age: 1}, 20480+1099511627776, 0)
	packs(t, api.Header{Format: 5, Age: 15}, 20480+15*1099511627776, 0)
	packs(t, api.Header{Format: 5, Marked: true}, 20480+17592186044416, 0)
	packs(t, api.Header{Format: 5, Noted: true}, 20480+35184372088832, 0)
	packs(t, api.Header{Format: 5, Slots: 1}, 20480, 1)
	packs(t, api.Header{Format: 5, Slots: 65536}, 20480, 65536)
	packs(t, api.Header{Class: 4095, Format: 6, Spare: 7, Hash: 4194303, Age: 15, Slots: 65536, Marked: true, Noted: true}, 1<<46-1-4096, 65536)
}

func TestFieldsBeyondTheirBounds(t *testing.T) {
	good := api.Header{Class: 5, Format: api.FormatBytes, Spare: 3, Hash: 9, Age: 2, Slots: 4}
	if _, _, e := words.Pack(good); e != api.OK {
		t.Fatal(e)
	}
	for _, c := range []struct {
		most int
		set  func(h *api.Header, n int)
	}{
		{4095, func(h *api.Header, n int) { h.Class = n }},
		{7, func(h *api.Header, n int) { h.Spare = n }},
		{4194303, func(h *api.Header, n int) { h.Hash = n }},
		{15, func(h *api.Header, n int) { h.Age = n }},
		{65536, func(h *api.Header, n int) { h.Slots = n }},
	} {
		for _, n := range []int{-1, c.most + 1, 2 * (c.most + 1), math.MinInt, math.MaxInt} {
			h := good
			c.set(&h, n)
			packsNot(t, h)
		}
		h := good
		c.set(&h, c.most)
		if _, _, e := words.Pack(h); e != api.OK {
			t.Errorf("Pack(%+v): %d", h, e)
		}
	}
}

func TestFormats(t *testing.T) {
	for f := range 256 {
		for spare := -1; spare <= 9; spare++ {
			for _, slots := range []int{-1, 0, 1, 2, 3, 65535, 65536, 65537} {
				h := api.Header{Class: 7, Format: api.Format(f), Spare: spare, Hash: 11, Age: 3, Slots: slots, Noted: true}
				if !validByDocument(api.Format(f), spare, slots) {
					packsNot(t, h)
					continue
				}
				packs(t, h, uint64(7+f*4096+spare*32768+11*262144+3*1099511627776+35184372088832), uint64(slots))
			}
		}
	}
}

// What holds: Pack after Unpack returns the words, and what no header is packed to is refused.
func TestHeaderWordsGoRound(t *testing.T) {
	for a := range uint64(1 << 18) {
		for _, b := range []uint64{0, 1, 2, 65536, 65537} {
			high := (a * 2654435761) & (1<<28 - 1) << 18
			h, e := words.Unpack(a|high, b)
			if !validByDocument(api.Format(a>>12&7), int(a>>15&7), int(b)) {
				unpacksNot(t, a|high, b)
				continue
			}
			if x, y, f := words.Pack(h); e != api.OK || f != api.OK || x != a|high || y != b {
				t.Fatalf("Unpack(%d, %d): %+v %d; packed: %d %d %d", a|high, b, h, e, x, y, f)
			}
		}
	}
}

// What holds: Unpack after Pack returns the header.
func TestHeadersGoRound(t *testing.T) {
	w := uint64(3)
	next := func(below int) int {
		w = w*6364136223846793005 + 1442695040888963407
		return int(w >> 33 % uint64(below))
	}
	valid := 0
	for range 50000 {
		h := api.Header{Class: next(4096), Format: api.Format(next(8)), Spare: next(8), Hash: next(4194304), Age: next(16), Slots: next(4), Marked: next(2) == 1, Noted: next(2) == 1}
		if next(2) == 1 {
			h.Slots = next(65537)
		}
		a, b, e := words.Pack(h)
		if !validByDocument(h.Format, h.Spare, h.Slots) {
			packsNot(t, h)
			continue
		}
		valid++
		if g, f := words.Unpack(a, b); g != h || e != api.OK || f != api.OK {
			t.Fatalf("Pack(%+v): %d %d %d; unpacked: %+v %d", h, a, b, e, g, f)
		}
	}
	if valid < 10000 {
		t.Error("too few valid headers were tried:", valid)
	}
}

// The bits above the fields, and numbers of slots that no int of 32 bits or of 64 bits holds.
func TestWordsThatAreNoHeader(t *testing.T) {
	const good = 20480 + 262144
	packs(t, api.Header{Format: 5, Hash: 1, Slots: 1}, good, 1)
	for bit := 46; bit < 64; bit++ {
		unpacksNot(t, good|1<<bit, 1)
	}
	unpacksNot(t, math.MaxUint64, 1)
	for _, b := range []uint64{65537, 131072, 1 << 31, 1 << 32, 1<<32 + 1, 1 << 63, 1<<63 + 1, math.MaxUint64} {
		unpacksNot(t, good, b)
	}
	for _, format := range []uint64{0, 7} {
		unpacksNot(t, format*4096, 1)
	}
}
