package world_test

import (
	"slices"
	"testing"

	"palaver/api"
	"palaver/world"
)

func host(name string) api.Choice {
	return api.Choice{Kind: api.ChoiceHost, Text: name}
}

func hosts(n int) []api.Choice {
	return slices.Repeat([]api.Choice{host("h")}, n)
}

// onFiles and onHosts are the operations that need a handle of a file, and of a host.
func onFiles(handle int) []asked {
	return []asked{reads(handle, 1), reads(handle, -1), writes(handle, "x"), writes(handle, ""), seeks(handle, 0), seeks(handle, -1), syncs(handle)}
}

func onHosts(handle int) []asked {
	return []asked{sends(handle, "x"), sends(handle, ""), receives(handle, 1), receives(handle, -1)}
}

func TestHandlesThatAreNone(t *testing.T) {
	w := made(t, nil, api.File{Name: "a"})
	w.Open("a", 1)
	w.Open("a", 3)
	w.Close(2)
	for _, handle := range []int{-1 << 63, -1, 0, 2, 3, 4, 1 << 40} {
		for _, q := range append(onFiles(handle), onHosts(handle)...) {
			fails(t, w, q, api.ErrWorldHandle)
		}
		fails(t, w, closes(handle), api.ErrWorldHandle)
		sized(t, w, handle, 0, api.ErrWorldHandle)
	}
	does(t, w, closes(1).deed())
	fails(t, w, closes(1), api.ErrWorldHandle)
}

// A handle of the other kind is none, be it stale or not.
func TestHandlesOfTheOtherKind(t *testing.T) {
	w := made(t, hosts(1), api.File{Name: "a"})
	w.Connect("h")
	w.Open("a", 1)
	for _, stale := range []bool{false, true} {
		for _, q := range onFiles(1) {
			fails(t, w, q, api.ErrWorldHandle)
		}
		for _, q := range onHosts(2) {
			fails(t, w, q, api.ErrWorldHandle)
		}
		sized(t, w, 1, 0, api.ErrWorldHandle)
		if !stale {
			w.Stale()
		}
	}
}

func TestStaleHandles(t *testing.T) {
	w := made(t, hosts(1), api.File{Name: "a", Text: "xyz"})
	w.Connect("h")
	w.Open("a", 1)
	w.Open("a", 3)
	w.Open("a", 1)
	w.Close(4)
	w.Stale()
	if n := len(w.Trace()); n != 5 {
		t.Error("Stale was recorded", n)
	}
	for range 2 {
		for _, handle := range []int{2, 3} {
			for _, q := range onFiles(handle) {
				fails(t, w, q, api.ErrWorldStale)
			}
			fails(t, w, closes(handle), api.ErrWorldStale)
			sized(t, w, handle, 0, api.ErrWorldStale)
		}
		for _, q := range onHosts(1) {
			fails(t, w, q, api.ErrWorldStale)
		}
		fails(t, w, closes(1), api.ErrWorldStale)
		fails(t, w, closes(4), api.ErrWorldHandle)
		fails(t, w, reads(4, 1), api.ErrWorldHandle)
		w.Stale()
	}
	contains(t, w, "a", "xyz")
	does(t, w, opens("a", 1).handle(5))
	does(t, w, reads(5, 9).text("xyz"))
	w.Stale()
	fails(t, w, reads(5, 9), api.ErrWorldStale)
}

// What stale handles wrote is there still, and is still not synced.
func TestStaleHandlesLeaveTheirWrites(t *testing.T) {
	w := made(t, nil, api.File{Name: "a", Text: "xyz"})
	w.Open("a", 3)
	w.Write(1, "1")
	w.Stale()
	contains(t, w, "a", "xyz1")
	contains(t, w.Left(0), "a", "xyz")
	contains(t, w.Left(1), "a", "xyz1")
}

func TestHandlesAreBounded(t *testing.T) {
	w := made(t, hosts(200), api.File{Name: "a"})
	for i := range 32 {
		if i%2 == 0 {
			does(t, w, connects("h").handle(i+1))
		} else {
			does(t, w, opens("a", 1+i%3).handle(i+1))
		}
	}
	fails(t, w, connects("h"), api.ErrWorldFull)
	fails(t, w, opens("a", 1), api.ErrWorldFull)
	does(t, w, closes(7).deed())
	does(t, w, connects("h").handle(33))
	fails(t, w, connects("h"), api.ErrWorldFull)
	does(t, w, closes(8).deed())
	does(t, w, opens("b", 2).handle(34))
	fails(t, w, opens("b", 1), api.ErrWorldFull)
	fails(t, w, closes(7), api.ErrWorldHandle)
	fails(t, w, connects("h"), api.ErrWorldFull)
}

func TestStaleHandlesAreNotCounted(t *testing.T) {
	w := made(t, hosts(300), api.File{Name: "a"})
	next := 1
	for range 3 {
		for range 32 {
			does(t, w, connects("h").handle(next))
			next++
		}
		fails(t, w, connects("h"), api.ErrWorldFull)
		w.Stale()
		fails(t, w, closes(next-1), api.ErrWorldStale)
	}
	for range 31 {
		does(t, w, opens("a", 1).handle(next))
		next++
	}
	w.Close(next - 1)
	does(t, w, opens("a", 1).handle(next))
	does(t, w, connects("h").handle(next+1))
	fails(t, w, opens("a", 1), api.ErrWorldFull)
	fails(t, w, connects("h"), api.ErrWorldFull)
}

// No number is issued twice, and failures issue none.
func TestHandlesAreNumbered(t *testing.T) {
	w := made(t, nil, api.File{Name: "a"})
	for i := range 1000 {
		fails(t, w, opens("none", 1), api.ErrWorldNone)
		does(t, w, opens("a", 1+i%3).handle(i+1))
		does(t, w, closes(i+1).deed())
	}
}

func TestConnecting(t *testing.T) {
	choices := []api.Choice{host("h"), host("g"), host(""), host("h "), {Kind: api.ChoiceNothing, Text: "h"}, {Kind: api.ChoiceBytes, Text: "h"}, {Kind: 0, Text: "h"}, host("h")}
	w := made(t, choices)
	does(t, w, connects("h").handle(1))
	fails(t, w, connects("h"), api.ErrWorldNone)
	fails(t, w, connects("h"), api.ErrWorldNone)
	fails(t, w, connects("h "), api.ErrWorldName)
	fails(t, w, connects("h"), api.ErrWorldNone)
	fails(t, w, connects("h"), api.ErrWorldNone)
	fails(t, w, connects("h"), api.ErrWorldNone)
	does(t, w, connects("h").handle(2))
	fails(t, w, connects("h"), api.ErrWorldNone)
	fails(t, w, connects(""), api.ErrWorldName)
}

func TestConnectErrorsInOrder(t *testing.T) {
	bad := func(name string, n int64) api.Choice {
		return api.Choice{Kind: api.ChoiceHost, Text: name, N: n}
	}
	choices := append(hosts(32), bad("h ", 31), bad("g", 31), bad("h", 31), bad("h", 35), bad("h", 0), bad("h", 36), bad("h", 29))
	w := made(t, choices)
	for range 32 {
		w.Connect("h")
	}
	fails(t, w, connects("h "), api.ErrWorldName)
	fails(t, w, connects("h"), api.ErrWorldNone)
	fails(t, w, connects("h"), api.ErrWorldStale)
	fails(t, w, connects("h"), api.ErrWorldName)
	fails(t, w, connects("h"), api.ErrWorldFull)
	fails(t, w, connects("h"), api.ErrWorldFull)
	fails(t, w, connects("h"), api.ErrWorldFull)
}

func TestHostsChooseErrors(t *testing.T) {
	numbers := []int64{-1 << 63, -30, -1, 0, 1, 29, 30, 31, 32, 33, 34, 35, 36, 37, 1<<32 + 30, 1<<63 - 1}
	for _, n := range numbers {
		w := made(t, []api.Choice{{Kind: api.ChoiceHost, Text: "h", N: n}, host("h"), {Kind: api.ChoiceBytes, Text: "xyz", N: n}})
		if n >= 30 && n <= 35 {
			fails(t, w, connects("h"), api.Errno(n))
			does(t, w, connects("h").handle(1))
			fails(t, w, receives(1, 2), api.Errno(n))
			continue
		}
		does(t, w, connects("h").handle(1))
		does(t, w, connects("h").handle(2))
		does(t, w, receives(1, 2).text("xy"))
	}
}

func TestSendingAndReceiving(t *testing.T) {
	bytes := func(s string) api.Choice {
		return api.Choice{Kind: api.ChoiceBytes, Text: s}
	}
	w := made(t, []api.Choice{host("h"), bytes("hello"), bytes("hello"), bytes("hello"), bytes("hello"), bytes(""), bytes("lost"), bytes("hello"), host("hello")})
	does(t, w, connects("h").handle(1))
	does(t, w, receives(1, 0).text(""))
	does(t, w, receives(1, 3).text("hel"))
	does(t, w, receives(1, 5).text("hello"))
	does(t, w, receives(1, 1<<62).text("hello"))
	does(t, w, receives(1, 9).text(""))
	does(t, w, sends(1, "\x00\xff").deed())
	fails(t, w, receives(1, -1), api.ErrArg)
	does(t, w, receives(1, 9).text(""))
	does(t, w, receives(1, 9).text(""))
	does(t, w, sends(1, "").deed())
	does(t, w, closes(1).deed())
	fails(t, w, sends(1, "x"), api.ErrWorldHandle)
	fails(t, w, receives(1, 1), api.ErrWorldHandle)
}

func TestReceiveErrorsInOrder(t *testing.T) {
	bad := api.Choice{Kind: api.ChoiceBytes, Text: "xyz", N: 34}
	w := made(t, []api.Choice{host("h"), bad, bad, bad, bad, bad})
	w.Connect("h")
	fails(t, w, receives(2, -1), api.ErrWorldHandle)
	fails(t, w, receives(1, -1), api.ErrArg)
	fails(t, w, receives(1, 1), api.ErrWorldFull)
	fails(t, w, receives(1, 0), api.ErrWorldFull)
	w.Stale()
	fails(t, w, receives(1, -1), api.ErrWorldStale)
}

func TestShowingAndQuitting(t *testing.T) {
	w := made(t, nil)
	for _, s := range []string{"", "a", "a b\n", "\x00\xff"} {
		does(t, w, shows(s).deed())
	}
	for _, code := range []int64{0, 1, -1, 1<<63 - 1, -1 << 63} {
		does(t, w, quits(code).deed())
	}
	does(t, w, shows("still there").deed())
}

func TestClock(t *testing.T) {
	const most = 1000000000000
	step := func(n int64) api.Choice { return api.Choice{Kind: api.ChoiceClock, N: n} }
	w := made(t, []api.Choice{step(5), step(0), step(-1), step(most), step(most + 1), step(1<<63 - 1), step(-1 << 63), {Kind: api.ChoiceNothing, N: 5}, {Kind: api.ChoiceFault, N: 31}, step(7), step(1)})
	for _, want := range []int64{5, 5, 5, most + 5, most + 5, most + 5, most + 5, most + 5, most + 5} {
		does(t, w, clocks().time(want))
	}
	does(t, w, shows("").deed())
	does(t, w, clocks().time(most+6))
	does(t, w, clocks().time(most+6))
}

func TestClockStops(t *testing.T) {
	const most, last = 1000000000000, 1000000000000000000
	step := func(n int64) api.Choice { return api.Choice{Kind: api.ChoiceClock, N: n} }
	w := late(t, last-most)
	for _, after := range []int64{1, most - 1, most} {
		x := w.Left(0, step(after), step(1))
		does(t, x, clocks().time(last-most+after))
		does(t, x, clocks().time(min(last, last-most+after+1)))
	}
	w = w.Left(0, step(most-1), step(most), step(most), step(0))
	for _, want := range []int64{last - 1, last, last, last, last} {
		does(t, w, clocks().time(want))
	}
}

// late is a world whose clock shows a time, a number of the widest steps.
func late(t *testing.T, time int64) *world.World {
	t.Helper()
	const most = 1000000000000
	w := made(t, nil)
	for left := time / most; left > 0; {
		n := min(left, 65536)
		left -= n
		w = w.Left(0, slices.Repeat([]api.Choice{{Kind: api.ChoiceClock, N: most}}, int(n))...)
		for range n {
			w.Clock()
		}
	}
	return w
}
