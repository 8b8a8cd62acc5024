package memory_test

import (
	"math"
	"strings"
	"testing"

	"palaver/api"
)

func TestClassOf(t *testing.T) {
	r := begin(t, wide())
	for o, want := range map[api.Oop]int{
		1: 1, 9: 1, math.MaxUint64 - 6: 1, 1<<63 + 1: 1, 1<<63 - 7: 1,
		2: 2, 778: 2, 8*2097151 + 2: 2,
		r.alloc(api.FormatPointers, 1): 5,
		r.method("abc", 9):             7,
	} {
		class, e := r.m.ClassOf(o)
		if class != want || e != api.OK {
			t.Errorf("ClassOf(%d): %d %d", o, class, e)
		}
	}
	for _, class := range []int{0, 1, 2, 3, 4095} {
		o := r.made(r.m.AllocText(class, "abc"))
		got, e := r.m.ClassOf(o)
		same(t, "class", got, class)
		r.succeeds(e)
		r.succeeds(r.m.SetClass(o, 4095-class))
		got, e = r.m.ClassOf(o)
		same(t, "class", got, 4095-class)
		r.succeeds(e)
	}
	for _, bad := range append([]api.Oop{0}, badWords...) {
		class, e := r.m.ClassOf(bad)
		if class != 0 || e != api.ErrHeapOop {
			t.Errorf("ClassOf(%d): %d %d", bad, class, e)
		}
	}
	// Of what is in each space; and of what was there, nothing.
	o := r.made(r.m.AllocText(77, "abc"))
	r.push(o)
	for _, move := range []func(){func() { r.scavenge() }, func() { r.scavenge() }, func() { r.made(r.m.Pin(o)) }} {
		move()
		_, e := r.m.ClassOf(o)
		r.fails(e, api.ErrHeapOop)
		o = r.root(0)
		class, e := r.m.ClassOf(o)
		same(t, "class", class, 77)
		r.succeeds(e)
	}
}

func TestFormat(t *testing.T) {
	r := begin(t, wide())
	for _, want := range []api.Format{1, 2, 3, 4, 5} {
		f, e := r.m.Format(r.alloc(want, 3))
		same(t, "format", f, want)
		r.succeeds(e)
	}
	f, e := r.m.Format(r.method("", 9))
	same(t, "format", f, api.FormatMethod)
	r.succeeds(e)
	for _, bad := range append([]api.Oop{0, 1, 2}, badWords...) {
		f, e := r.m.Format(bad)
		if f != 0 || e != api.ErrHeapOop {
			t.Errorf("Format(%d): %d %d", bad, f, e)
		}
	}
}

func TestText(t *testing.T) {
	r := begin(t, wide())
	for _, s := range []string{"", "a", "1234567", "12345678", "123456789", "\x00\xff\x80é\n"} {
		same(t, "text", r.text(r.made(r.m.AllocText(5, s))), s)
		for literals := range 3 {
			same(t, "text", r.text(r.method(s, make([]api.Oop, literals)...)), s)
		}
	}
	same(t, "text", r.text(r.alloc(api.FormatBytes, 9)), strings.Repeat("\x00", 9))
	o := r.alloc(api.FormatBytes, 3)
	for i := range 3 {
		r.succeeds(r.m.SetByte(o, i, "xyz"[i]))
	}
	s := r.text(o)
	r.succeeds(r.m.SetByte(o, 1, 'Y'))
	same(t, "as it was", s, "xyz")
	same(t, "text", r.text(o), "xYz")
}

// What has no bytes by its format, empty or not: ErrHeapKind, ahead of the place.
func TestTextOfOtherFormats(t *testing.T) {
	r := begin(t, wide())
	for _, f := range []api.Format{1, 2, 3, 4} {
		for _, n := range []int{0, 1, 3} {
			if n == 0 && f == api.FormatEphemeron {
				continue
			}
			o := r.alloc(f, n)
			before := pictureOf(r)
			s, e := r.m.Text(o)
			same(t, "text", s, "")
			r.fails(e, api.ErrHeapKind)
			for at := -1; at < 2; at++ {
				r.fails(r.m.SetText(o, at, "a"), api.ErrHeapKind)
				r.fails(r.m.SetText(o, at, ""), api.ErrHeapKind)
			}
			samePicture(t, "after what failed", pictureOf(r), before)
		}
	}
}

// At each place with each length: only the bytes that are there are written, and no others.
func TestSetText(t *testing.T) {
	r := begin(t, api.Sizes{Eden: 1024, Survivor: 64, Bound: 4096})
	const size = 11
	fresh := strings.Repeat("-", size)
	o, m := r.made(r.m.AllocText(5, fresh)), r.method(fresh, 9, 17)
	behind := r.made(r.m.AllocText(5, "behind"))
	for _, o := range []api.Oop{o, m} {
		oops := r.look(o).Oops
		for at := -2; at < size+3; at++ {
			for n := range size + 3 {
				s := strings.Repeat("\xfe", n)
				before := pictureOf(r)
				if at < 0 || at+n > size {
					r.fails(r.m.SetText(o, at, s), api.ErrHeapIndex)
					samePicture(t, "after what failed", pictureOf(r), before)
					continue
				}
				r.succeeds(r.m.SetText(o, at, s))
				same(t, "text", r.text(o), fresh[:at]+s+fresh[at+n:])
				sameList(t, "oops", r.look(o).Oops, oops)
				r.succeeds(r.m.SetText(o, 0, fresh))
				samePicture(t, "as before", pictureOf(r), before)
			}
		}
		for _, at := range []int{math.MinInt, math.MaxInt, math.MaxInt - 1, 1 << 32, -1 << 32} {
			for _, s := range []string{"", "a", fresh} {
				r.fails(r.m.SetText(o, at, s), api.ErrHeapIndex)
			}
		}
	}
	same(t, "text", r.text(behind), "behind")
	empty := r.made(r.m.AllocText(5, ""))
	r.succeeds(r.m.SetText(empty, 0, ""))
	r.fails(r.m.SetText(empty, 0, "a"), api.ErrHeapIndex)
	r.fails(r.m.SetText(empty, 1, ""), api.ErrHeapIndex)
}

// A text that is there already is written in place: nothing is made or counted, wherever the object lies.
func TestSetTextInEachSpace(t *testing.T) {
	r := begin(t, wide())
	r.push(r.made(r.m.AllocText(5, "0123456789")), r.made(r.m.AllocText(5, strings.Repeat("x", 2000))))
	for i, move := range []func(){func() {}, func() { r.scavenge() }, func() { r.scavenge() }, func() { r.made(r.m.Pin(r.root(0))) }} {
		move()
		count := r.m.Count()
		r.succeeds(r.m.SetText(r.root(0), 2*i, "ab"))
		r.succeeds(r.m.SetText(r.root(1), 1998-i, "ab"))
		same(t, "count", r.m.Count(), count)
	}
	same(t, "text", r.text(r.root(0)), "abababab89")
	same(t, "text", r.text(r.root(1))[1994:], "xabbbb")
}
