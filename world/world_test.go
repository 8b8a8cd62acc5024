package world_test

import (
	"slices"
	"strings"
	"testing"

	"palaver/api"
	"palaver/world"
)

// The exact signatures: a caller may keep these functions in variables.
var (
	_ func([]api.Choice, ...api.File) (*world.World, api.Errno)              = world.New
	_ func(w *world.World, name string, mode int) (int, api.Errno)           = (*world.World).Open
	_ func(w *world.World, handle, n int) (string, api.Errno)                = (*world.World).Read
	_ func(w *world.World, handle int, s string) api.Errno                   = (*world.World).Write
	_ func(w *world.World, handle, at int) api.Errno                         = (*world.World).Seek
	_ func(w *world.World, handle int) (int, api.Errno)                      = (*world.World).Size
	_ func(w *world.World, handle int) api.Errno                             = (*world.World).Sync
	_ func(w *world.World, handle int) api.Errno                             = (*world.World).Close
	_ func(w *world.World, from, to string) api.Errno                        = (*world.World).Rename
	_ func(w *world.World, name string) api.Errno                            = (*world.World).Delete
	_ func(w *world.World) (int64, api.Errno)                                = (*world.World).Clock
	_ func(w *world.World, host string) (int, api.Errno)                     = (*world.World).Connect
	_ func(w *world.World, handle int, s string) api.Errno                   = (*world.World).Send
	_ func(w *world.World, handle, n int) (string, api.Errno)                = (*world.World).Receive
	_ func(w *world.World, s string) api.Errno                               = (*world.World).Show
	_ func(w *world.World, code int64) api.Errno                             = (*world.World).Quit
	_ func(w *world.World) (int64, bool)                                     = (*world.World).Signal
	_ func(w *world.World)                                                   = (*world.World).Stale
	_ func(w *world.World) []api.Deed                                        = (*world.World).Trace
	_ func(w *world.World) []api.File                                        = (*world.World).Files
	_ func(w *world.World) bool                                              = (*world.World).Dead
	_ func(w *world.World, which uint64, choices ...api.Choice) *world.World = (*world.World).Left
)

// longest is how many bytes a file may have.
const longest = 4194304

// asked is a request; perform makes it in a world and answers the deed that has to be recorded: the request with what came of it.
type asked api.Deed

func opens(name string, mode int) asked {
	return asked{Kind: api.DeedOpen, Text: name, N: int64(mode)}
}

func reads(handle, n int) asked {
	return asked{Kind: api.DeedRead, Handle: handle, N: int64(n)}
}

func writes(handle int, s string) asked {
	return asked{Kind: api.DeedWrite, Handle: handle, Text: s}
}

func seeks(handle, at int) asked {
	return asked{Kind: api.DeedSeek, Handle: handle, N: int64(at)}
}

func syncs(handle int) asked  { return asked{Kind: api.DeedSync, Handle: handle} }
func closes(handle int) asked { return asked{Kind: api.DeedClose, Handle: handle} }

func renames(from, to string) asked {
	return asked{Kind: api.DeedRename, Text: from, To: to}
}

func deletes(name string) asked  { return asked{Kind: api.DeedDelete, Text: name} }
func clocks() asked              { return asked{Kind: api.DeedClock} }
func connects(host string) asked { return asked{Kind: api.DeedConnect, Text: host} }

func sends(handle int, s string) asked {
	return asked{Kind: api.DeedSend, Handle: handle, Text: s}
}

func receives(handle, n int) asked {
	return asked{Kind: api.DeedReceive, Handle: handle, N: int64(n)}
}

func shows(s string) asked     { return asked{Kind: api.DeedShow, Text: s} }
func quits(code int64) asked   { return asked{Kind: api.DeedQuit, N: code} }
func (q asked) deed() api.Deed { return api.Deed(q) }

func (q asked) perform(w *world.World) api.Deed {
	d := api.Deed(q)
	switch q.Kind {
	case api.DeedOpen:
		d.Handle, d.Err = w.Open(q.Text, int(q.N))
	case api.DeedRead:
		d.Text, d.Err = w.Read(q.Handle, int(q.N))
	case api.DeedWrite:
		d.Err = w.Write(q.Handle, q.Text)
	case api.DeedSeek:
		d.Err = w.Seek(q.Handle, int(q.N))
	case api.DeedSync:
		d.Err = w.Sync(q.Handle)
	case api.DeedClose:
		d.Err = w.Close(q.Handle)
	case api.DeedRename:
		d.Err = w.Rename(q.Text, q.To)
	case api.DeedDelete:
		d.Err = w.Delete(q.Text)
	case api.DeedClock:
		d.N, d.Err = w.Clock()
	case api.DeedConnect:
		d.Handle, d.Err = w.Connect(q.Text)
	case api.DeedSend:
		d.Err = w.Send(q.Handle, q.Text)
	case api.DeedReceive:
		d.Text, d.Err = w.Receive(q.Handle, int(q.N))
	case api.DeedShow:
		d.Err = w.Show(q.Text)
	case api.DeedQuit:
		d.Err = w.Quit(q.N)
	}
	return d
}

// does makes a request that succeeds; where it answers something, that is set in want.
func does(t *testing.T, w *world.World, want api.Deed) {
	t.Helper()
	q := asked(want)
	q.Err = 0
	switch q.Kind {
	case api.DeedOpen, api.DeedConnect:
		q.Handle = 0
	case api.DeedRead, api.DeedReceive:
		q.Text = ""
	case api.DeedClock:
		q.N = 0
	}
	answers(t, w, q, want)
}

// fails makes a request that fails: what is recorded is the request and the error.
func fails(t *testing.T, w *world.World, q asked, err api.Errno) {
	t.Helper()
	want := q.deed()
	want.Err = err
	answers(t, w, q, want)
}

func answers(t *testing.T, w *world.World, q asked, want api.Deed) {
	t.Helper()
	before := len(w.Trace())
	if got := q.perform(w); got != want {
		t.Errorf("%+v answered %+v, not %+v", q, short(got), short(want))
	}
	trace := w.Trace()
	if len(trace) != before+1 {
		t.Fatalf("%+v: the trace grew from %d to %d", q, before, len(trace))
	}
	if got := trace[before]; got != want {
		t.Errorf("%+v was recorded as %+v, not %+v", q, short(got), short(want))
	}
}

// dies makes a request in a world that is dead then.
func dies(t *testing.T, w *world.World, q asked) {
	t.Helper()
	trace, files := w.Trace(), w.Files()
	want := q.deed()
	want.Err = api.ErrWorldDead
	if got := q.perform(w); got != want {
		t.Errorf("%+v answered %+v, not %+v", q, got, want)
	}
	if !w.Dead() {
		t.Errorf("%+v: it is not dead", q)
	}
	if !slices.Equal(w.Trace(), trace) || !slices.Equal(w.Files(), files) {
		t.Errorf("%+v changed a dead world", q)
	}
}

func short(d api.Deed) api.Deed {
	if len(d.Text) > 100 {
		d.Text = d.Text[:100] + ".."
	}
	return d
}

// got is a request with its answer: a handle, or bytes.
func (q asked) handle(n int) api.Deed {
	d := q.deed()
	d.Handle = n
	return d
}

func (q asked) text(s string) api.Deed {
	d := q.deed()
	d.Text = s
	return d
}

func (q asked) time(n int64) api.Deed {
	d := q.deed()
	d.N = n
	return d
}

func made(t *testing.T, choices []api.Choice, files ...api.File) *world.World {
	t.Helper()
	w, err := world.New(choices, files...)
	if w == nil || err != api.OK {
		t.Fatal(w, err)
	}
	return w
}

// content is a file's bytes; false: there is no such file.
func content(w *world.World, name string) (string, bool) {
	for _, f := range w.Files() {
		if f.Name == name {
			return f.Text, true
		}
	}
	return "", false
}

func contains(t *testing.T, w *world.World, name, want string) {
	t.Helper()
	if s, is := content(w, name); s != want || !is {
		t.Errorf("%s has %q %t, not %q", name, s[:min(len(s), 100)], is, want[:min(len(want), 100)])
	}
}

func lacks(t *testing.T, w *world.World, name string) {
	t.Helper()
	if s, is := content(w, name); is {
		t.Errorf("%s is there: %q", name, s)
	}
}

func sized(t *testing.T, w *world.World, handle, want int, err api.Errno) {
	t.Helper()
	before := len(w.Trace())
	if n, e := w.Size(handle); n != want || e != err {
		t.Errorf("Size(%d): %d %d, not %d %d", handle, n, e, want, err)
	}
	if len(w.Trace()) != before {
		t.Error("Size was recorded")
	}
}

func manyFiles(n int) []api.File {
	var l []api.File
	for i := range n {
		l = append(l, api.File{Name: "f" + string(rune('a'+i/26)) + string(rune('a'+i%26)), Text: strings.Repeat("x", i)})
	}
	return l
}

func newFails(t *testing.T, choices []api.Choice, files ...api.File) {
	t.Helper()
	if w, err := world.New(choices, files...); w != nil || err != api.ErrArg {
		t.Errorf("New of %d choices and %d files: %v %d", len(choices), len(files), w, err)
	}
}

func TestErrorsHaveTheirNumbers(t *testing.T) {
	got := []api.Errno{api.ErrArg, api.ErrWorldHandle, api.ErrWorldStale, api.ErrWorldNone, api.ErrWorldMode, api.ErrWorldFull, api.ErrWorldName, api.ErrWorldDead}
	if !slices.Equal(got, []api.Errno{1, 30, 31, 32, 33, 34, 35, 36}) {
		t.Error(got)
	}
}

func TestNew(t *testing.T) {
	w := made(t, nil)
	if len(w.Files()) != 0 || len(w.Trace()) != 0 || w.Dead() {
		t.Error("a new world is not empty")
	}
	does(t, w, clocks().time(0))
	sized(t, w, 0, 0, api.ErrWorldHandle)
	sized(t, w, 1, 0, api.ErrWorldHandle)

	w = made(t, nil, api.File{Name: "b", Text: "2"}, api.File{Name: "a", Text: "\x00\xff"}, api.File{Name: "c"})
	want := []api.File{{Name: "a", Text: "\x00\xff"}, {Name: "b", Text: "2"}, {Name: "c"}}
	if !slices.Equal(w.Files(), want) {
		t.Error(w.Files())
	}
	for _, which := range []uint64{0, 1<<64 - 1} {
		if !slices.Equal(w.Left(which).Files(), want) {
			t.Error("its files are not synced", which)
		}
	}
}

func TestNewRefuses(t *testing.T) {
	made(t, make([]api.Choice, 65536))
	newFails(t, make([]api.Choice, 65537))
	if w := made(t, nil, manyFiles(64)...); len(w.Files()) != 64 {
		t.Error(len(w.Files()))
	}
	newFails(t, nil, manyFiles(65)...)
	newFails(t, nil, api.File{Name: ""})
	newFails(t, nil, api.File{Name: "a"}, api.File{Name: "a b"})
	newFails(t, nil, api.File{Name: "a"}, api.File{Name: "b"}, api.File{Name: "a"})
	newFails(t, nil, api.File{Name: "a", Text: "1"}, api.File{Name: "a", Text: "2"})
	full := strings.Repeat("x", longest)
	contains(t, made(t, nil, api.File{Name: "a", Text: full}), "a", full)
	newFails(t, nil, api.File{Name: "a", Text: full + "x"})
}

// isNameByDocument has the allowed characters written out.
func isNameByDocument(s string) bool {
	const allowed = "abcdefghijklmnopqrstuvwxyzABCDEFGHIJKLMNOPQRSTUVWXYZ0123456789.-_/"
	for i := range len(s) {
		if strings.IndexByte(allowed, s[i]) < 0 {
			return false
		}
	}
	return len(s) >= 1 && len(s) <= 64
}

func sampleNames() []string {
	l := []string{"", "a/b.c-d_E9", ".", "..", "/", "//", " a", "a ", "a\x00", "ä", "é", "\xff", "日", "٣", "ａ"}
	for b := range 256 {
		one := string([]byte{byte(b)})
		l = append(l, one, "a"+one, one+"a", "a"+one+"a", strings.Repeat("a", 63)+one, strings.Repeat("a", 64)+one)
	}
	return append(l, strings.Repeat("a", 64), strings.Repeat("a", 65), strings.Repeat("/", 64), strings.Repeat("é", 32), strings.Repeat("a", 1000))
}

func TestNames(t *testing.T) {
	for _, s := range sampleNames() {
		nameIs(t, s, isNameByDocument(s))
	}
}

// nameIs asks all calls that are given names.
func nameIs(t *testing.T, s string, valid bool) {
	t.Helper()
	if w, err := world.New(nil, api.File{Name: s}); (w != nil) != valid || (err == api.OK) != valid {
		t.Errorf("New with %q: %d", s, err)
	}
	w := made(t, []api.Choice{{Kind: api.ChoiceHost, Text: s}})
	if !valid {
		fails(t, w, connects(s), api.ErrWorldName)
		fails(t, w, opens(s, 2), api.ErrWorldName)
		fails(t, w, deletes(s), api.ErrWorldName)
		fails(t, w, renames(s, "zz"), api.ErrWorldName)
		does(t, w, opens("zz", 2).handle(1))
		fails(t, w, renames("zz", s), api.ErrWorldName)
		return
	}
	does(t, w, connects(s).handle(1))
	does(t, w, opens(s, 2).handle(2))
	does(t, w, renames(s, "zz").deed())
	does(t, w, renames("zz", s).deed())
	does(t, w, deletes(s).deed())
}

func TestFilesAreSortedByBytes(t *testing.T) {
	names := []string{"a", "B", "_", "-", "0", "/", ".", "aa", "a/", "a0", "A", "b"}
	var files []api.File
	for _, s := range names {
		files = append(files, api.File{Name: s, Text: s + s})
	}
	var got []string
	for _, f := range made(t, nil, files...).Files() {
		got = append(got, f.Name)
		if f.Text != f.Name+f.Name {
			t.Error(f)
		}
	}
	if !slices.Equal(got, []string{"-", ".", "/", "0", "A", "B", "_", "a", "a/", "a0", "aa", "b"}) {
		t.Error(got)
	}
}

func TestWhatIsHandedInIsNotKept(t *testing.T) {
	choices := []api.Choice{{Kind: api.ChoiceSignal, N: 1}, {Kind: api.ChoiceSignal, N: 2}}
	same := slices.Clone(choices)
	files := []api.File{{Name: "a", Text: "1"}}
	w := made(t, choices, files...)
	left := w.Left(0, choices...)
	for i := range choices {
		choices[i] = api.Choice{Kind: api.ChoiceCrash}
	}
	files[0] = api.File{Name: "z", Text: "z"}
	contains(t, w, "a", "1")
	for _, w := range []*world.World{w, left} {
		for _, c := range same {
			if n, is := w.Signal(); n != c.N || !is {
				t.Error(n, is)
			}
		}
	}
	choices = slices.Clone(same)
	w = made(t, choices)
	left = w.Left(0, choices...)
	w.Signal()
	left.Show("")
	if !slices.Equal(choices, same) {
		t.Error("the choices handed in were changed", choices)
	}
}

func TestWhatIsHandedOutIsNew(t *testing.T) {
	w := made(t, nil, api.File{Name: "a", Text: "1"}, api.File{Name: "b", Text: "2"})
	w.Show("x")
	w.Show("y")
	trace, files := w.Trace(), w.Files()
	kept := slices.Clone(trace)
	other, others := w.Trace(), w.Files()
	trace[0], files[0] = api.Deed{}, api.File{}
	_ = append(trace[:1], api.Deed{Kind: 99})
	if !slices.Equal(other, kept) || !slices.Equal(w.Trace(), kept) {
		t.Error("two traces share memory")
	}
	if others[0].Name != "a" || w.Files()[0].Name != "a" {
		t.Error("two lists of files share memory")
	}
	held := w.Trace()
	held = append(held, api.Deed{Kind: 98})
	w.Show("z")
	if held[2].Kind != 98 || w.Trace()[2].Text != "z" {
		t.Error("the spare capacity is shared")
	}
}
