package world_test

import (
	"strings"
	"testing"

	"palaver/api"
)

func TestExampleOfReading(t *testing.T) {
	w := made(t, nil, api.File{Name: "a", Text: "xyz"})
	does(t, w, opens("a", 1).handle(1))
	does(t, w, reads(1, 2).text("xy"))
	does(t, w, reads(1, 2).text("z"))
	does(t, w, reads(1, 2).text(""))
	fails(t, w, writes(1, "q"), api.ErrWorldMode)
	fails(t, w, opens("b", 1), api.ErrWorldNone)
	contains(t, w, "a", "xyz")
}

func TestOpenModes(t *testing.T) {
	w := made(t, nil, api.File{Name: "a", Text: "xyz"})
	does(t, w, opens("a", 1).handle(1))
	does(t, w, opens("a", 3).handle(2))
	contains(t, w, "a", "xyz")
	does(t, w, opens("a", 2).handle(3))
	contains(t, w, "a", "")
	does(t, w, opens("b", 2).handle(4))
	does(t, w, opens("c", 3).handle(5))
	contains(t, w, "b", "")
	contains(t, w, "c", "")
	contains(t, w.Left(0), "b", "")
	contains(t, w.Left(0), "c", "")
	lacks(t, w, "d")
}

func TestOpenErrors(t *testing.T) {
	w := made(t, nil, api.File{Name: "a"})
	for _, mode := range []int{0, -1, 4, 5, 1 << 40, -1 << 62} {
		fails(t, w, opens("a b", mode), api.ErrWorldName)
		fails(t, w, opens("a", mode), api.ErrWorldMode)
		fails(t, w, opens("none", mode), api.ErrWorldMode)
	}
	for range 32 {
		w.Open("a", 1)
	}
	for _, mode := range []int{1, 2, 3} {
		fails(t, w, opens("", mode), api.ErrWorldName)
		fails(t, w, opens("a", mode), api.ErrWorldFull)
	}
	fails(t, w, opens("a", 4), api.ErrWorldMode)
	fails(t, w, opens("b", 1), api.ErrWorldNone)
	fails(t, w, opens("b", 2), api.ErrWorldFull)
	lacks(t, w, "b")
	contains(t, w, "a", "")
}

// A file that is opened for writing while no handle is left keeps its bytes.
func TestOpenThatFailsChangesNothing(t *testing.T) {
	w := made(t, nil, api.File{Name: "a", Text: "xyz"})
	for range 32 {
		w.Open("a", 1)
	}
	fails(t, w, opens("a", 2), api.ErrWorldFull)
	contains(t, w, "a", "xyz")
	w.Close(5)
	does(t, w, opens("a", 1).handle(33))
}

func TestFilesAreBounded(t *testing.T) {
	w := made(t, nil, manyFiles(63)...)
	does(t, w, opens("x", 2).handle(1))
	fails(t, w, opens("y", 2), api.ErrWorldFull)
	fails(t, w, opens("y", 3), api.ErrWorldFull)
	fails(t, w, opens("y", 1), api.ErrWorldNone)
	does(t, w, opens("x", 3).handle(2))
	does(t, w, opens("x", 2).handle(3))
	if n := len(w.Files()); n != 64 {
		t.Error(n)
	}
	does(t, w, renames("x", "y").deed())
	fails(t, w, opens("x", 2), api.ErrWorldFull)
	does(t, w, renames("y", "faa").deed())
	does(t, w, opens("x", 3).handle(4))
	fails(t, w, opens("y", 3), api.ErrWorldFull)
	does(t, w, deletes("x").deed())
	does(t, w, opens("y", 2).handle(5))
}

func TestReading(t *testing.T) {
	w := made(t, nil, api.File{Name: "a", Text: "0123456789"})
	w.Open("a", 1)
	w.Open("a", 1)
	does(t, w, reads(1, 0).text(""))
	does(t, w, reads(1, 3).text("012"))
	does(t, w, reads(2, 1).text("0"))
	does(t, w, reads(1, 7).text("3456789"))
	does(t, w, reads(1, 1<<62).text(""))
	does(t, w, reads(2, 1<<62).text("123456789"))
	does(t, w, seeks(1, 9).deed())
	does(t, w, reads(1, 2).text("9"))
}

// What is appended while a file is read is read, too; what is cut off is not.
func TestReadingWhatOthersWrite(t *testing.T) {
	w := made(t, nil, api.File{Name: "a", Text: "12"})
	w.Open("a", 1)
	w.Open("a", 3)
	does(t, w, reads(1, 9).text("12"))
	does(t, w, writes(2, "34").deed())
	does(t, w, reads(1, 1).text("3"))
	does(t, w, opens("a", 2).handle(3))
	does(t, w, reads(1, 1).text(""))
	does(t, w, writes(3, "abcdef").deed())
	does(t, w, reads(1, 9).text("def"))
}

func TestReadErrors(t *testing.T) {
	w := made(t, nil, api.File{Name: "a", Text: "xyz"})
	w.Open("a", 1)
	w.Open("a", 3)
	for _, n := range []int{-1, -2, -1 << 63} {
		fails(t, w, reads(1, n), api.ErrArg)
		fails(t, w, reads(2, n), api.ErrWorldMode)
		fails(t, w, reads(3, n), api.ErrWorldHandle)
	}
	fails(t, w, reads(2, 1), api.ErrWorldMode)
	w.Open("a", 2)
	fails(t, w, reads(3, 1), api.ErrWorldMode)
	does(t, w, reads(1, 5).text(""))
}

func TestWriting(t *testing.T) {
	w := made(t, nil, api.File{Name: "a", Text: "xyz"})
	w.Open("a", 2)
	does(t, w, writes(1, "12").deed())
	does(t, w, writes(1, "345").deed())
	contains(t, w, "a", "12345")
	does(t, w, seeks(1, 1).deed())
	does(t, w, writes(1, "AB").deed())
	contains(t, w, "a", "1AB45")
	does(t, w, writes(1, "").deed())
	does(t, w, writes(1, "CDE").deed())
	contains(t, w, "a", "1ABCDE")
	sized(t, w, 1, 6, api.OK)
	does(t, w, writes(1, "\x00\xff\x80").deed())
	contains(t, w, "a", "1ABCDE\x00\xff\x80")
}

func TestAppending(t *testing.T) {
	w := made(t, nil, api.File{Name: "a", Text: "xyz"})
	w.Open("a", 3)
	w.Open("a", 3)
	does(t, w, writes(1, "1").deed())
	does(t, w, writes(2, "2").deed())
	does(t, w, writes(1, "3").deed())
	contains(t, w, "a", "xyz123")
	does(t, w, seeks(1, 0).deed())
	does(t, w, writes(1, "4").deed())
	contains(t, w, "a", "xyz1234")
	does(t, w, opens("a", 2).handle(3))
	does(t, w, writes(2, "5").deed())
	does(t, w, writes(1, "6").deed())
	contains(t, w, "a", "56")
	fails(t, w, seeks(1, 3), api.ErrArg)
}

func TestWritingBehindTheEnd(t *testing.T) {
	w := made(t, nil)
	w.Open("a", 2)
	does(t, w, writes(1, "12345").deed())
	does(t, w, opens("a", 2).handle(2))
	does(t, w, writes(2, "ab").deed())
	does(t, w, writes(1, "c").deed())
	contains(t, w, "a", "ab\x00\x00\x00c")
	does(t, w, opens("a", 2).handle(3))
	does(t, w, writes(1, "").deed())
	contains(t, w, "a", "\x00\x00\x00\x00\x00\x00")
	does(t, w, opens("a", 2).handle(4))
	does(t, w, writes(4, "123456").deed())
	does(t, w, writes(1, "").deed())
	contains(t, w, "a", "123456")
}

// What stood there before a truncation doesn't come back.
func TestZerosAreWritten(t *testing.T) {
	w := made(t, nil, api.File{Name: "a", Text: strings.Repeat("x", 100)})
	w.Open("a", 3)
	w.Open("a", 2)
	w.Write(2, strings.Repeat("y", 50))
	w.Open("a", 2)
	w.Write(2, "z")
	contains(t, w, "a", strings.Repeat("\x00", 50)+"z")
	w.Sync(1)
	contains(t, w.Left(0), "a", strings.Repeat("\x00", 50)+"z")
}

func TestFilesAreAsLongAsMayBe(t *testing.T) {
	full := strings.Repeat("x", longest)
	w := made(t, nil)
	w.Open("a", 2)
	fails(t, w, writes(1, full+"x"), api.ErrWorldFull)
	contains(t, w, "a", "")
	does(t, w, writes(1, full).deed())
	does(t, w, writes(1, "").deed())
	fails(t, w, writes(1, "y"), api.ErrWorldFull)
	does(t, w, seeks(1, longest).deed())
	fails(t, w, seeks(1, longest+1), api.ErrArg)
	does(t, w, seeks(1, longest-2).deed())
	fails(t, w, writes(1, "yyy"), api.ErrWorldFull)
	does(t, w, writes(1, "y").deed())
	does(t, w, writes(1, "y").deed())
	fails(t, w, writes(1, "y"), api.ErrWorldFull)
	does(t, w, opens("a", 3).handle(2))
	fails(t, w, writes(2, "y"), api.ErrWorldFull)
	does(t, w, writes(2, "").deed())
	contains(t, w, "a", full[2:]+"yy")
	sized(t, w, 2, longest, api.OK)
	does(t, w, opens("a", 1).handle(3))
	does(t, w, seeks(3, longest-3).deed())
	does(t, w, reads(3, 4).text("xyy"))
	does(t, w, opens("a", 2).handle(4))
	does(t, w, writes(1, "").deed())
	sized(t, w, 4, longest, api.OK)
	fails(t, w, writes(1, "z"), api.ErrWorldFull)
}

func TestWriteErrors(t *testing.T) {
	w := made(t, nil, api.File{Name: "a", Text: "xyz"})
	w.Open("a", 1)
	fails(t, w, writes(1, ""), api.ErrWorldMode)
	fails(t, w, writes(1, strings.Repeat("x", longest+1)), api.ErrWorldMode)
	fails(t, w, writes(2, strings.Repeat("x", longest+1)), api.ErrWorldHandle)
}

func TestSeeking(t *testing.T) {
	w := made(t, nil, api.File{Name: "a", Text: "xyz"})
	for mode := 1; mode <= 3; mode++ {
		w.Open("a", mode)
		w.Write(mode, "abc")
		for at := range 4 {
			does(t, w, seeks(mode, at).deed())
		}
		for _, at := range []int{-1, 4, 5, 1 << 62, -1 << 63} {
			if mode == 3 {
				at += 3
			}
			if at != 2 {
				fails(t, w, seeks(mode, at), api.ErrArg)
			}
		}
	}
	fails(t, w, seeks(4, -1), api.ErrWorldHandle)
	does(t, w, seeks(1, 1).deed())
	fails(t, w, seeks(1, 7), api.ErrArg)
	does(t, w, reads(1, 1).text("b"))
}

func TestSize(t *testing.T) {
	w := made(t, []api.Choice{{Kind: api.ChoiceHost, Text: "h"}, {Kind: api.ChoiceNothing}, {Kind: api.ChoiceNothing}, {Kind: api.ChoiceCrash}}, api.File{Name: "a", Text: "xyz"})
	w.Connect("h")
	w.Open("a", 1)
	sized(t, w, 2, 3, api.OK)
	sized(t, w, 1, 0, api.ErrWorldHandle)
	sized(t, w, 3, 0, api.ErrWorldHandle)
	sized(t, w, -1, 0, api.ErrWorldHandle)
	w.Stale()
	sized(t, w, 2, 0, api.ErrWorldStale)
	sized(t, w, 1, 0, api.ErrWorldHandle)
	w.Open("a", 1)
	sized(t, w, 3, 3, api.OK)
	dies(t, w, closes(3))
	for handle := range 5 {
		sized(t, w, handle, 0, api.ErrWorldDead)
	}
}

func TestRenaming(t *testing.T) {
	w := made(t, nil, api.File{Name: "a", Text: "1"}, api.File{Name: "b", Text: "2"})
	does(t, w, renames("a", "c").deed())
	lacks(t, w, "a")
	contains(t, w, "c", "1")
	does(t, w, renames("c", "b").deed())
	lacks(t, w, "c")
	contains(t, w, "b", "1")
	does(t, w, renames("b", "b").deed())
	contains(t, w, "b", "1")
	if n := len(w.Files()); n != 1 {
		t.Error(n)
	}
	fails(t, w, renames("a", "b"), api.ErrWorldNone)
	fails(t, w, renames("a", "a"), api.ErrWorldNone)
	fails(t, w, renames("a", "b "), api.ErrWorldName)
	fails(t, w, renames("", "b"), api.ErrWorldName)
	fails(t, w, renames("b", ""), api.ErrWorldName)
	contains(t, w, "b", "1")
}

// Between equal names even what is not synced stays.
func TestRenamingToItself(t *testing.T) {
	w := made(t, nil, api.File{Name: "a", Text: "1"})
	w.Open("a", 3)
	w.Write(1, "2")
	does(t, w, renames("a", "a").deed())
	contains(t, w, "a", "12")
	contains(t, w.Left(0), "a", "1")
	contains(t, w.Left(1), "a", "12")
	does(t, w, writes(1, "3").deed())
	contains(t, w, "a", "123")
}

func TestDeleting(t *testing.T) {
	w := made(t, nil, api.File{Name: "a", Text: "1"}, api.File{Name: "b", Text: "2"})
	does(t, w, deletes("a").deed())
	lacks(t, w, "a")
	contains(t, w, "b", "2")
	fails(t, w, deletes("a"), api.ErrWorldNone)
	fails(t, w, deletes("a "), api.ErrWorldName)
	fails(t, w, opens("a", 1), api.ErrWorldNone)
	does(t, w, opens("a", 3).handle(1))
	contains(t, w, "a", "")
}

// A file that has lost its name goes on for those who have it open.
func TestHandlesOfRemovedFiles(t *testing.T) {
	w := made(t, nil, api.File{Name: "a", Text: "old"}, api.File{Name: "b", Text: "new"})
	for _, name := range []string{"a", "b"} {
		w.Open(name, 1)
		w.Open(name, 3)
	}
	does(t, w, renames("b", "a").deed())
	does(t, w, writes(2, "er").deed())
	does(t, w, writes(4, "est").deed())
	contains(t, w, "a", "newest")
	does(t, w, reads(1, 9).text("older"))
	does(t, w, reads(3, 9).text("newest"))
	does(t, w, deletes("a").deed())
	does(t, w, writes(4, "!").deed())
	does(t, w, reads(3, 9).text("!"))
	does(t, w, seeks(1, 1).deed())
	does(t, w, reads(1, 2).text("ld"))
	sized(t, w, 1, 5, api.OK)
	sized(t, w, 3, 7, api.OK)
	does(t, w, syncs(2).deed())
	does(t, w, syncs(4).deed())
	does(t, w, opens("a", 2).handle(5))
	does(t, w, writes(5, "other").deed())
	does(t, w, seeks(3, 0).deed())
	does(t, w, reads(3, 9).text("newest!"))
	contains(t, w, "a", "other")
	if n := len(w.Files()); n != 1 {
		t.Error(n)
	}
	for handle := 1; handle <= 5; handle++ {
		does(t, w, closes(handle).deed())
	}
}

func TestHandlesFollowTheirFile(t *testing.T) {
	w := made(t, nil, api.File{Name: "a", Text: "1"})
	w.Open("a", 3)
	does(t, w, renames("a", "b").deed())
	does(t, w, writes(1, "2").deed())
	contains(t, w, "b", "12")
	does(t, w, opens("a", 2).handle(2))
	does(t, w, writes(1, "3").deed())
	contains(t, w, "b", "123")
	contains(t, w, "a", "")
}
