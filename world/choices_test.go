package world_test

import (
	"slices"
	"testing"

	"palaver/api"
	"palaver/world"
)

// everyOperation succeeds in a stage, and in this order each succeeds there behind the others, too (but for its fields that a choice determines).
func everyOperation() []asked {
	return []asked{reads(1, 2), writes(2, "w"), seeks(1, 1), syncs(2), opens("new", 2), renames("a", "b"), deletes("c"), clocks(), connects("h"), sends(3, "s"), receives(3, 2), shows("x"), quits(1), closes(1), closes(3)}
}

// isOnFiles tells of which operations a fault may be chosen.
func isOnFiles(q asked) bool {
	switch q.Kind {
	case api.DeedOpen, api.DeedRead, api.DeedWrite, api.DeedSeek, api.DeedSync, api.DeedClose, api.DeedRename, api.DeedDelete:
		return true
	}
	return false
}

// stage is a world in which something is open: 1 reads a, 2 appends to a, 3 is a host. Choices follow.
func stage(t *testing.T, choices ...api.Choice) *world.World {
	t.Helper()
	nothing := api.Choice{Kind: api.ChoiceNothing}
	w := made(t, append([]api.Choice{nothing, nothing, host("h")}, choices...), api.File{Name: "a", Text: "xyz"}, api.File{Name: "c", Text: "3"})
	w.Open("a", 1)
	w.Open("a", 3)
	w.Connect("h")
	return w
}

// expected is what an operation in a stage answers to a choice.
func expected(q asked, c api.Choice) api.Deed {
	failing := func(err api.Errno) api.Deed {
		d := q.deed()
		d.Err = err
		return d
	}
	bad := c.N >= 30 && c.N <= 35
	switch {
	case isOnFiles(q) && c.Kind == api.ChoiceFault && bad:
		return failing(api.Errno(c.N))
	case q.Kind == api.DeedConnect && (c.Kind != api.ChoiceHost || c.Text != "h"):
		return failing(api.ErrWorldNone)
	case q.Kind == api.DeedConnect && bad:
		return failing(api.Errno(c.N))
	case q.Kind == api.DeedConnect, q.Kind == api.DeedOpen:
		return q.handle(4)
	case q.Kind == api.DeedRead:
		return q.text("xy")
	case q.Kind == api.DeedReceive && c.Kind == api.ChoiceBytes && bad:
		return failing(api.Errno(c.N))
	case q.Kind == api.DeedReceive && c.Kind == api.ChoiceBytes:
		return q.text(c.Text[:min(2, len(c.Text))])
	case q.Kind == api.DeedClock && c.Kind == api.ChoiceClock && c.N >= 0 && c.N <= 1000000000000:
		return q.time(c.N)
	}
	return q.deed()
}

func sampleChoices() []api.Choice {
	var l []api.Choice
	for _, kind := range []api.ChoiceKind{0, 1, 2, 3, 4, 6, 7, 8, 255} {
		for _, n := range []int64{0, 1, 5, 29, 30, 31, 32, 33, 34, 35, 36, -31, 1<<32 + 31, 1000000000000, 1000000000001, -1} {
			for _, s := range []string{"", "h", "hello"} {
				l = append(l, api.Choice{Kind: kind, N: n, Text: s})
			}
		}
	}
	return l
}

// Each operation takes one choice, whatever that is, and does by it what is promised.
func TestEachChoiceAtEachOperation(t *testing.T) {
	signal := api.Choice{Kind: api.ChoiceSignal, N: 77}
	for _, q := range everyOperation() {
		for _, c := range sampleChoices() {
			w := stage(t, c, signal)
			answers(t, w, q, expected(q, c))
			if n, is := w.Signal(); n != 77 || !is {
				t.Fatalf("%+v took not just %+v", q, c)
			}
		}
	}
}

// An operation that fails takes its choice, too.
func TestFailuresTakeTheirChoices(t *testing.T) {
	bad := []asked{opens("", 1), reads(9, 1), writes(9, ""), seeks(9, 1), syncs(9), closes(9), renames("", ""), deletes(""), connects(""), sends(9, ""), receives(9, 1)}
	for _, q := range bad {
		w := made(t, []api.Choice{{Kind: api.ChoiceSignal, N: 1}, {Kind: api.ChoiceSignal, N: 2}})
		err := api.ErrWorldHandle
		if q.Handle == 0 {
			err = api.ErrWorldName
		}
		fails(t, w, q, err)
		if n, is := w.Signal(); n != 2 || !is {
			t.Error(q, n, is)
		}
	}
}

func TestFaultsChangeNothing(t *testing.T) {
	fault := api.Choice{Kind: api.ChoiceFault, N: 34}
	w := stage(t, slices.Repeat([]api.Choice{fault}, 11)...)
	files := w.Files()
	for _, q := range []asked{opens("a", 2), opens("new", 3), reads(1, 2), writes(2, "w"), seeks(1, 1), renames("a", "c"), deletes("a"), closes(1), closes(3), syncs(2), opens("a", 1)} {
		fails(t, w, q, api.ErrWorldFull)
		if !slices.Equal(w.Files(), files) {
			t.Fatalf("%+v changed files", q)
		}
	}
	does(t, w, reads(1, 2).text("xy"))
	does(t, w, sends(3, "x").deed())
	does(t, w, opens("new", 2).handle(4))
}

func TestAFaultSyncsNothing(t *testing.T) {
	w := stage(t, api.Choice{Kind: api.ChoiceNothing}, api.Choice{Kind: api.ChoiceFault, N: 30})
	does(t, w, writes(2, "w").deed())
	fails(t, w, syncs(2), api.ErrWorldHandle)
	contains(t, w.Left(0), "a", "xyz")
}

// A fault comes ahead of all errors that the operation has by itself.
func TestFaultsComeFirst(t *testing.T) {
	for n := int64(29); n <= 36; n++ {
		for _, own := range []struct {
			q   asked
			err api.Errno
		}{
			{opens("", 9), api.ErrWorldName}, {opens("a", 9), api.ErrWorldMode}, {opens("none", 1), api.ErrWorldNone},
			{reads(9, -1), api.ErrWorldHandle}, {reads(3, 1), api.ErrWorldHandle}, {reads(2, 1), api.ErrWorldMode}, {reads(1, -1), api.ErrArg},
			{writes(9, ""), api.ErrWorldHandle}, {writes(1, ""), api.ErrWorldMode},
			{seeks(9, -1), api.ErrWorldHandle}, {seeks(1, -1), api.ErrArg},
			{syncs(9), api.ErrWorldHandle}, {closes(9), api.ErrWorldHandle},
			{renames("", ""), api.ErrWorldName}, {renames("none", "a"), api.ErrWorldNone},
			{deletes(""), api.ErrWorldName}, {deletes("none"), api.ErrWorldNone},
		} {
			want := own.err
			if n >= 30 && n <= 35 {
				want = api.Errno(n)
			}
			fails(t, stage(t, api.Choice{Kind: api.ChoiceFault, N: n}), own.q, want)
		}
	}
}

// Faults of files don't concern the other operations.
func TestFaultsElsewhere(t *testing.T) {
	for n := int64(30); n <= 35; n++ {
		fault := api.Choice{Kind: api.ChoiceFault, N: n, Text: "h"}
		w := stage(t, slices.Repeat([]api.Choice{fault}, 6)...)
		does(t, w, clocks().time(0))
		fails(t, w, connects("h"), api.ErrWorldNone)
		does(t, w, sends(3, "x").deed())
		does(t, w, receives(3, 1).text(""))
		does(t, w, shows("x").deed())
		does(t, w, quits(1).deed())
	}
}

func TestCrashAtEachOperation(t *testing.T) {
	for _, q := range everyOperation() {
		w := stage(t, api.Choice{Kind: api.ChoiceCrash}, api.Choice{Kind: api.ChoiceSignal})
		left := w.Left(0).Files()
		if w.Dead() {
			t.Fatal("dead ahead of the crash")
		}
		dies(t, w, q)
		for _, again := range everyOperation() {
			dies(t, w, again)
		}
		isDead(t, w)
		if !slices.Equal(w.Left(0).Files(), left) {
			t.Error("the crash left something else")
		}
	}
}

// Even an operation that would fail dies.
func TestCrashComesFirst(t *testing.T) {
	for _, q := range []asked{opens("", 9), reads(9, -1), writes(9, ""), seeks(9, -1), syncs(9), closes(9), renames("", ""), deletes(""), connects(""), sends(9, ""), receives(9, -1)} {
		dies(t, stage(t, api.Choice{Kind: api.ChoiceCrash, N: 31}), q)
	}
}

func isDead(t *testing.T, w *world.World) {
	t.Helper()
	if n, is := w.Signal(); n != 0 || is {
		t.Error("a dead world signals", n, is)
	}
	sized(t, w, 1, 0, api.ErrWorldDead)
	sized(t, w, 99, 0, api.ErrWorldDead)
	w.Stale()
	sized(t, w, 1, 0, api.ErrWorldDead)
	if !w.Dead() || len(w.Trace()) != 3 || len(w.Files()) != 2 {
		t.Error(w.Dead(), w.Trace(), w.Files())
	}
}

func TestExampleOfACrash(t *testing.T) {
	w := made(t, []api.Choice{{Kind: api.ChoiceNothing}, {Kind: api.ChoiceCrash}})
	does(t, w, shows("first").deed())
	dies(t, w, shows("second"))
	if trace := w.Trace(); !slices.Equal(trace, []api.Deed{{Kind: api.DeedShow, Text: "first"}}) {
		t.Error(trace)
	}
}

func TestSignals(t *testing.T) {
	signal := func(n int64) api.Choice { return api.Choice{Kind: api.ChoiceSignal, N: n} }
	w := made(t, []api.Choice{signal(-1 << 63), signal(5), {Kind: api.ChoiceNothing, N: 9}, signal(0), signal(8), {Kind: api.ChoiceCrash}, signal(1)})
	signals := func(n int64, is bool) {
		t.Helper()
		before := len(w.Trace())
		if got, was := w.Signal(); got != n || was != is {
			t.Error(got, was, "not", n, is)
		}
		if len(w.Trace()) != before {
			t.Error("a signal was recorded")
		}
	}
	signals(-1<<63, true)
	signals(5, true)
	signals(0, false)
	signals(0, false)
	does(t, w, shows("").deed())
	signals(0, true)
	does(t, w, clocks().time(0))
	signals(0, false)
	if w.Dead() {
		t.Error("Signal took a crash")
	}
	dies(t, w, shows(""))
	signals(0, false)
	w = made(t, nil)
	signals(0, false)
}

// The choices beyond the last one choose nothing.
func TestWithoutChoices(t *testing.T) {
	w := stage(t)
	for _, q := range everyOperation() {
		if q.Kind == api.DeedRename || q.Kind == api.DeedDelete {
			continue
		}
		answers(t, w, q, expected(q, api.Choice{}))
		w = stage(t)
	}
}

func TestEachOperationTakesOneOfManyChoices(t *testing.T) {
	var choices []api.Choice
	for i := range 65536 {
		choices = append(choices, api.Choice{Kind: api.ChoiceClock, N: int64(i)})
	}
	w := made(t, choices)
	time := int64(0)
	for i := range choices {
		time += int64(i)
		if n, err := w.Clock(); n != time || err != 0 {
			t.Fatal(i, n, err)
		}
	}
	does(t, w, clocks().time(time))
}

func TestTraceInOrder(t *testing.T) {
	w := stage(t)
	want := w.Trace()
	for _, q := range everyOperation() {
		want = append(want, q.perform(w))
	}
	if got := w.Trace(); !slices.Equal(got, want) || len(got) != 18 {
		t.Error(got)
	}
	first := []api.Deed{{Kind: 1, Text: "a", N: 1, Handle: 1}, {Kind: 1, Text: "a", N: 3, Handle: 2}, {Kind: 10, Text: "h", Handle: 3}, {Kind: 2, Handle: 1, N: 2, Text: "xy"}, {Kind: 3, Handle: 2, Text: "w"}, {Kind: 4, Handle: 1, N: 1}, {Kind: 5, Handle: 2}, {Kind: 1, Text: "new", N: 2, Handle: 4}, {Kind: 7, Text: "a", To: "b"}, {Kind: 8, Text: "c"}, {Kind: 9}, {Kind: 10, Text: "h", Err: 32}, {Kind: 11, Handle: 3, Text: "s"}, {Kind: 12, Handle: 3, N: 2}, {Kind: 13, Text: "x"}, {Kind: 14, N: 1}, {Kind: 6, Handle: 1}, {Kind: 6, Handle: 3}}
	if !slices.Equal(w.Trace(), first) {
		t.Error(w.Trace())
	}
}
