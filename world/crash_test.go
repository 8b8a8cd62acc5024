package world_test

import (
	"slices"
	"strings"
	"testing"

	"palaver/api"
	"palaver/world"
)

const everything = 1<<64 - 1

// leaves tells what a file has behind crashes: in the place of each, the bytes.
func leaves(t *testing.T, w *world.World, name string, want map[uint64]string) {
	t.Helper()
	for which, s := range want {
		if got, is := content(w.Left(which), name); got != s || !is {
			t.Errorf("Left(%b): %s has %q %t, not %q", which, name, got, is, s)
		}
	}
}

func TestExampleOfUnsyncedWrites(t *testing.T) {
	w := made(t, nil, api.File{Name: "a", Text: "xyz"})
	does(t, w, opens("a", 2).handle(1))
	does(t, w, writes(1, "new").deed())
	leaves(t, w, "a", map[uint64]string{0: "xyz", 1: "", 2: "new", 3: "new", 4: "xyz", everything: "new"})
	does(t, w, syncs(1).deed())
	leaves(t, w, "a", map[uint64]string{0: "new", everything: "new"})
}

func TestExampleOfReplacing(t *testing.T) {
	for _, synced := range []bool{true, false} {
		w := made(t, nil, api.File{Name: "a", Text: "xyz"})
		does(t, w, opens("t", 2).handle(1))
		does(t, w, writes(1, "1").deed())
		want := ""
		if synced {
			does(t, w, syncs(1).deed())
			want = "1"
		}
		does(t, w, closes(1).deed())
		does(t, w, renames("t", "a").deed())
		leaves(t, w, "a", map[uint64]string{0: want, everything: "1"})
		lacks(t, w.Left(0), "t")
	}
}

// A truncation is a write even where there is nothing to cut off.
func TestTruncationsAreWrites(t *testing.T) {
	w := made(t, nil, api.File{Name: "empty"})
	w.Open("empty", 2)
	w.Write(1, "1")
	leaves(t, w, "empty", map[uint64]string{0: "", 1: "", 2: "1", 3: "1"})
	w = made(t, nil)
	w.Open("made", 2)
	w.Write(1, "1")
	leaves(t, w, "made", map[uint64]string{0: "", 1: "", 2: "1", 3: "1"})
	w = made(t, nil)
	w.Open("made", 3)
	w.Write(1, "1")
	leaves(t, w, "made", map[uint64]string{0: "", 1: "1", 2: ""})
}

func TestEmptyWritesAreWrites(t *testing.T) {
	w := made(t, nil)
	w.Open("a", 3)
	w.Write(1, "")
	w.Write(1, "x")
	leaves(t, w, "a", map[uint64]string{0: "", 1: "", 2: "x", 3: "x"})
	w = made(t, nil)
	w.Open("b", 3)
	w.Open("a", 3)
	w.Write(1, "abc")
	w.Write(1, "")
	w.Write(2, "x")
	leaves(t, w, "b", map[uint64]string{0: "", 1: "abc", 2: "\x00\x00\x00", 4: ""})
	leaves(t, w, "a", map[uint64]string{3: "", 4: "x"})
}

// What fails is no write.
func TestFailuresAreNoWrites(t *testing.T) {
	fault := api.Choice{Kind: api.ChoiceFault, N: 34}
	w := made(t, []api.Choice{{}, fault, fault, {}, {}}, api.File{Name: "a", Text: "abc"})
	w.Open("a", 3)
	w.Write(1, "lost")
	w.Open("a", 2)
	w.Write(1, strings.Repeat("x", longest))
	w.Open("a", 0)
	w.Write(1, "d")
	leaves(t, w, "a", map[uint64]string{0: "abc", 1: "abcd", 2: "abc"})
}

// The offset of what was appended is where the end was then.
func TestOffsetsAreThoseOfThen(t *testing.T) {
	w := made(t, nil, api.File{Name: "a", Text: "abc"})
	w.Open("a", 3)
	w.Write(1, "12")
	w.Write(1, "34")
	w.Write(1, "5")
	leaves(t, w, "a", map[uint64]string{0: "abc", 1: "abc12", 2: "abc\x00\x0034", 3: "abc1234", 4: "abc\x00\x00\x00\x005", 5: "abc12\x00\x005", 7: "abc12345"})
	w = made(t, nil, api.File{Name: "a", Text: "abcdef"})
	w.Open("a", 2)
	w.Write(1, "12")
	w.Seek(1, 1)
	w.Write(1, "3")
	leaves(t, w, "a", map[uint64]string{0: "abcdef", 2: "12cdef", 4: "a3cdef", 6: "13cdef", 5: "\x003", 1: "", 3: "12", 7: "13"})
}

// Writes go in their order, not by their bits' weight alone: a truncation cuts off what came before.
func TestWritesGoInOrder(t *testing.T) {
	w := made(t, nil, api.File{Name: "a", Text: "abc"})
	w.Open("a", 3)
	w.Write(1, "1")
	w.Open("a", 2)
	w.Write(1, "2")
	leaves(t, w, "a", map[uint64]string{0: "abc", 1: "abc1", 2: "", 3: "", 4: "2bc", 5: "2bc1", 6: "2", 7: "2"})
}

func TestNumbersAcrossFiles(t *testing.T) {
	w := made(t, nil, api.File{Name: "z"}, api.File{Name: "a"})
	w.Open("z", 3)
	w.Open("a", 3)
	for i := range 6 {
		w.Write(1+i%2, string(rune('0'+i)))
	}
	leaves(t, w, "z", map[uint64]string{0: "", 1: "0", 4: "\x002", 16: "\x00\x004", 21: "024", 42: ""})
	leaves(t, w, "a", map[uint64]string{0: "", 2: "1", 8: "\x003", 32: "\x00\x005", 42: "135", 21: ""})
	w.Sync(1)
	leaves(t, w, "z", map[uint64]string{0: "024"})
	leaves(t, w, "a", map[uint64]string{1: "1", 2: "\x003", 4: "\x00\x005", 7: "135", 8: ""})
	w.Write(1, "6")
	leaves(t, w, "z", map[uint64]string{7: "024", 8: "0246"})
}

// Writes of files that can't be found have no numbers; a file that was given another name keeps its own.
func TestNumbersOfFilesThatCanBeFound(t *testing.T) {
	w := made(t, nil, api.File{Name: "a"}, api.File{Name: "b"}, api.File{Name: "c"})
	for handle, name := range []string{"a", "b", "c"} {
		w.Open(name, 3)
		w.Write(handle+1, name)
	}
	leaves(t, w, "c", map[uint64]string{1: "", 2: "", 4: "c"})
	w.Delete("a")
	leaves(t, w, "b", map[uint64]string{0: "", 1: "b", 2: ""})
	leaves(t, w, "c", map[uint64]string{1: "", 2: "c", 4: ""})
	w.Write(1, "lost")
	w.Rename("c", "b")
	leaves(t, w, "b", map[uint64]string{0: "", 1: "c", 2: ""})
	w.Write(2, "lost")
	w.Write(3, "d")
	leaves(t, w, "b", map[uint64]string{1: "c", 2: "\x00d", 3: "cd", 4: ""})
	w.Open("a", 3)
	w.Write(4, "e")
	leaves(t, w, "a", map[uint64]string{3: "", 4: "e"})
}

func TestWritesPastNumber63(t *testing.T) {
	w := made(t, nil)
	w.Open("a", 3)
	for i := range 64 {
		w.Write(1, string(rune('0'+i%10)))
	}
	all, _ := content(w, "a")
	leaves(t, w, "a", map[uint64]string{everything: all, 1 << 63: strings.Repeat("\x00", 63) + all[63:], 1: "0"})
	w.Write(1, "x")
	w.Write(1, "y")
	leaves(t, w, "a", map[uint64]string{everything: all, 0: ""})
	w.Sync(1)
	leaves(t, w, "a", map[uint64]string{0: all + "xy"})
}

// Another file's writes beyond number 63 are not kept, be they the first of their own file.
func TestWritesPastNumber63InSeveralFiles(t *testing.T) {
	w := made(t, nil)
	w.Open("z", 3)
	w.Open("a", 3)
	w.Write(2, "first")
	for range 70 {
		w.Write(1, "z")
	}
	w.Write(2, "last")
	w.Open("b", 2)
	w.Write(3, "b")
	leaves(t, w, "a", map[uint64]string{everything: "first", everything - 1: "", 0: ""})
	leaves(t, w, "z", map[uint64]string{everything: strings.Repeat("z", 63), everything - 1: strings.Repeat("z", 63), 2: "z"})
	leaves(t, w, "b", map[uint64]string{everything: "", 0: ""})
	w.Sync(1)
	leaves(t, w, "a", map[uint64]string{1: "first", 2: "\x00\x00\x00\x00\x00last", everything: "firstlast"})
	leaves(t, w, "b", map[uint64]string{4: "", 8: "b", everything: "b"})
}

// The numbers move on as writes ahead of them are synced or lose their file.
func TestNumber64BecomesNumber63(t *testing.T) {
	w := made(t, nil)
	w.Open("a", 3)
	w.Open("b", 3)
	w.Write(1, "1")
	for range 63 {
		w.Write(2, "z")
	}
	w.Open("c", 3)
	w.Write(3, "c")
	leaves(t, w, "c", map[uint64]string{everything: ""})
	w.Sync(1)
	leaves(t, w, "c", map[uint64]string{everything: "c", 1 << 63: "c", everything >> 1: ""})
}

func TestWhatIsSyncedStays(t *testing.T) {
	w := made(t, nil, api.File{Name: "a", Text: "abc"}, api.File{Name: "b", Text: "b"})
	w.Open("a", 3)
	w.Write(1, "1")
	w.Open("a", 1)
	does(t, w, syncs(2).deed())
	w.Rename("b", "c")
	w.Open("d", 3)
	for i := range 100 {
		w.Write(3, "d")
		w.Write(1, "lost")
		if i%10 == 0 {
			w.Sync(3)
		}
	}
	w.Delete("c")
	left := w.Left(0)
	contains(t, left, "a", "abc1")
	contains(t, left, "d", strings.Repeat("d", 91))
	if n := len(left.Files()); n != 2 {
		t.Error(n)
	}
}

func TestSyncIsOfOneFile(t *testing.T) {
	w := made(t, nil)
	w.Open("a", 3)
	w.Open("b", 3)
	w.Write(1, "a")
	w.Write(2, "b")
	w.Sync(1)
	leaves(t, w, "a", map[uint64]string{0: "a"})
	leaves(t, w, "b", map[uint64]string{0: "", 1: "b"})
}

// Closing syncs nothing, and neither does reading.
func TestOthersSyncNothing(t *testing.T) {
	w := made(t, nil, api.File{Name: "a", Text: "abc"})
	w.Open("a", 3)
	w.Write(1, "d")
	w.Open("a", 1)
	w.Read(2, 9)
	w.Close(1)
	w.Close(2)
	w.Rename("a", "b")
	w.Stale()
	w.Files()
	w.Quit(0)
	leaves(t, w, "b", map[uint64]string{0: "abc", 1: "abcd"})
}

// A file that replaced another one is never found in part.
func TestReplacingIsWhole(t *testing.T) {
	const old, fresh = "old old old", "new"
	steps := []asked{opens("t", 2), writes(1, "n"), writes(1, "e"), writes(1, "w"), syncs(1), closes(1), renames("t", "a")}
	for crash := range len(steps) + 1 {
		choices := append(make([]api.Choice, crash), api.Choice{Kind: api.ChoiceCrash})
		w := made(t, choices, api.File{Name: "a", Text: old})
		for i, q := range steps {
			if q.perform(w); w.Dead() != (i >= crash) {
				t.Error(crash, i, w.Dead())
			}
		}
		want := old
		if crash == len(steps) {
			want = fresh
		}
		for which := range uint64(32) {
			contains(t, w.Left(which), "a", want)
		}
	}
}

func TestLeftIsAnotherWorld(t *testing.T) {
	w := made(t, []api.Choice{{Kind: api.ChoiceClock, N: 5}, {}, {}, {}, {Kind: api.ChoiceSignal, N: 1}}, api.File{Name: "a", Text: "abc"})
	w.Clock()
	w.Open("a", 1)
	w.Open("a", 3)
	w.Write(2, "d")
	trace, files := w.Trace(), w.Files()
	left := w.Left(1, api.Choice{Kind: api.ChoiceSignal, N: 2})
	if left.Dead() || len(left.Trace()) != 0 {
		t.Error(left.Dead(), left.Trace())
	}
	fails(t, w.Left(1), reads(1, 1), api.ErrWorldHandle)
	fails(t, w.Left(1), closes(2), api.ErrWorldHandle)
	if n, is := left.Signal(); n != 2 || !is {
		t.Error(n, is)
	}
	if n, is := left.Signal(); n != 0 || is {
		t.Error(n, is)
	}
	does(t, left, clocks().time(5))
	does(t, left, opens("a", 2).handle(1))
	does(t, left, opens("new", 2).handle(2))
	does(t, left, writes(1, "other").deed())
	does(t, left, deletes("new").deed())
	if !slices.Equal(w.Trace(), trace) || !slices.Equal(w.Files(), files) || w.Dead() {
		t.Error("the first world changed")
	}
	leaves(t, w, "a", map[uint64]string{0: "abc", 1: "abcd"})
	leaves(t, left, "a", map[uint64]string{0: "abcd", 1: "", 3: "other"})
	if n, is := w.Signal(); n != 1 || !is {
		t.Error(n, is)
	}
	does(t, w, reads(1, 9).text("abcd"))
	does(t, w, writes(2, "e").deed())
	contains(t, w, "a", "abcde")
	contains(t, left, "a", "other")
	does(t, w, opens("x", 2).handle(3))
	lacks(t, left, "x")
}

// All that a crash has left is synced, and numbers begin anew.
func TestWhatIsLeftIsSynced(t *testing.T) {
	w := made(t, nil, api.File{Name: "a", Text: "abc"})
	w.Open("a", 3)
	w.Write(1, "1")
	w.Write(1, "2")
	left := w.Left(1)
	leaves(t, left, "a", map[uint64]string{0: "abc1", everything: "abc1"})
	left.Open("a", 3)
	left.Write(1, "3")
	leaves(t, left, "a", map[uint64]string{0: "abc1", 1: "abc13", 2: "abc1"})
}

func TestLeftOfADeadWorld(t *testing.T) {
	w := made(t, []api.Choice{{Kind: api.ChoiceClock, N: 9}, {}, {}, {Kind: api.ChoiceCrash}, {Kind: api.ChoiceSignal}}, api.File{Name: "a", Text: "abc"})
	w.Clock()
	w.Open("a", 3)
	w.Write(1, "d")
	dies(t, w, writes(1, "e"))
	contains(t, w, "a", "abcd")
	leaves(t, w, "a", map[uint64]string{0: "abc", 1: "abcd", 2: "abc"})
	left := w.Left(0)
	if _, is := left.Signal(); is || left.Dead() {
		t.Error("a choice of the dead world is left")
	}
	does(t, left, clocks().time(9))
	if !w.Dead() {
		t.Error("Left revives")
	}
}

func TestLeftTakesSoManyChoices(t *testing.T) {
	w := made(t, nil)
	for _, n := range []int{0, 1, 65535, 65536, 65537, 100000} {
		left := w.Left(0, slices.Repeat([]api.Choice{{Kind: api.ChoiceSignal, N: 3}}, n)...)
		got := 0
		for _, is := left.Signal(); is; _, is = left.Signal() {
			got++
		}
		if got != min(n, 65536) {
			t.Error(n, got)
		}
	}
}

// Many small writes and syncs of a long file are no more work than the bytes that are written.
func TestManySyncs(t *testing.T) {
	w := made(t, nil, api.File{Name: "a", Text: strings.Repeat("x", longest-100000)})
	w.Open("a", 3)
	for range 100000 {
		w.Write(1, "y")
		w.Sync(1)
	}
	contains(t, w.Left(0), "a", strings.Repeat("x", longest-100000)+strings.Repeat("y", 100000))
}
