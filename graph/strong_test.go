package graph_test

import (
	"slices"
	"testing"

	"palaver/api"
	"palaver/compact"
	"palaver/graph"
)

// collects runs a full collection behind Strong: it keeps and lets fire what that has told.
func (r *trial) collects() {
	r.Helper()
	living, fired := graph.Strong(r.h)
	names, firedNames := r.classes(living), r.classes(fired)
	report := compact.Run(r.h)
	same(r.T, "kept", report.Kept, len(living))
	sameList(r.T, "fired", r.classes(report.Fired), firedNames)
	var left []api.Oop
	for _, sp := range allSpaces {
		left = slices.AppendSeq(left, r.h.Walk(sp))
	}
	slices.Sort(names)
	sameList(r.T, "left", slices.Sorted(slices.Values(r.classes(left))), names)
}

// classes are the classes of objects, by which they are known wherever they go.
func (r *trial) classes(l []api.Oop) []int {
	r.Helper()
	classes := []int{}
	for _, o := range l {
		classes = append(classes, r.head(o).Class)
	}
	return classes
}

type strongCase struct{ text, stack, living, fired string }

func strong(t *testing.T, cases []strongCase) {
	t.Helper()
	for _, c := range cases {
		for _, sp := range allSpaces {
			r := scene(t, spaceNames()[sp]+" "+c.text, c.stack)
			r.lives(c.living, c.fired)
			r.collects()
			if t.Failed() {
				t.Fatalf("%s: %s, stack %s", spaceNames()[sp], c.text, c.stack)
			}
		}
	}
}

// Steps 1 and 2 of Liveness: roots, then the queue in order; weak objects visit nothing.
func TestStrongWithoutEphemerons(t *testing.T) {
	strong(t, []strongCase{
		{"A:B B", "", "", ""},
		{"A:BC B:D C:E D E X:A", "A", "ABCDE", ""},
		{"A:BC B:D C:E D E", "CA", "CAEBD", ""},
		{"A:A B:CB C:B", "BA", "BAC", ""},
		{"A:.#BBA B", "A", "AB", ""},
		{"M*BA A B:X X N*", "NM", "NMBAX", ""},
		{"W?X X", "W", "W", ""},
		{"W?X X", "WX", "WX", ""},
		{"W?X X", "XW", "XW", ""},
		{"W?XY X Y:Z Z A:WX", "A", "AWX", ""},
		{"A:W W?X X:Y Y", "A", "AW", ""},
		{"W?W V?W", "V", "V", ""},
		{"W?E E!KV K V", "W", "W", ""},
	})
}

// Step 2: the key is not an object, or lives already: nothing waits.
func TestStrongWithEphemeronsThatDoNotWait(t *testing.T) {
	strong(t, []strongCase{
		{"E!.V V", "E", "EV", ""},
		{"E!#V V", "E", "EV", ""},
		{"E!KV K V", "KE", "KEV", ""},
		{"E!KV K V", "EK", "EKV", ""},
		{"A:KE E!KV K V", "A", "AKEV", ""},
		{"A:EK E!KV K V", "A", "AEKV", ""},
		{"E!EV V", "E", "EV", ""},
		{"E!FV F!EW V W", "EF", "EFVW", ""},
		{"M*KE E!KV K V", "M", "MKEV", ""},
		{"E!. F!#", "", "", ""},
		{"E!K..#V K V", "EK", "EKV", ""},
	})
}

// Step 3: the key comes to live later.
func TestStrongWithEphemeronsThatWait(t *testing.T) {
	strong(t, []strongCase{
		{"E!KV K V A:K", "EA", "EAKV", ""},
		{"E!KV K V A:B B:C C:K", "EA", "EABCKV", ""},
		{"E!KV V K F!.K", "EF", "EFKV", ""},
		{"E!KV V K F!LK L A:L", "EFA", "EFALKV", ""},
		{"F!LK L E!KV K V A:L", "FEA", "FEALKV", ""},
		{"E!K F!LK G!ML H!NM A:N K L M N", "EFGHA", "EFGHANMLK", ""}, // against the order in which they were met
		{"E!K F!LK G!ML H!NM A:N K L M N", "HGFEA", "HGFEANMLK", ""}, // in it
		{"E!KV F!KW G!KX A:K K V W X", "GEFA", "GEFAKXVW", ""},
		{"E!KF F!LV K L V A:KL", "EA", "EAKLFV", ""},
		{"E!FX F!KY K X Y A:KE G:F", "AG", "AGKEFXY", ""},
	})
}

// Step 3: who is ready by then visits in the same look, if it has not been passed.
func TestStrongInTheOrderOfLooks(t *testing.T) {
	strong(t, []strongCase{
		{"E!KLP F!LX K L P:Y X Y A:K", "EFA", "EFAKLPXY", ""}, // E's look makes F ready, which lies behind it
		{"E!KLP F!LX K L P:Y X Y A:K", "FEA", "FEAKLPYX", ""}, // .. which was passed
		{"E!KQP F!LX Q:L K L P:Y X Y A:K", "EFA", "EFAKQPLYX", ""},
		{"E!R F!KX G!S X!T R S T K A:K", "EFGA", "EFGAKXRST", "EGX"}, // what waits from now on comes behind
		{"F!KX E!R X!T R T K A:K", "FEA", "FEAKXRT", "EX"},
		{"E!R F!K G!S H!L I!T R S T K L A:KL", "IHGFEA", "IHGFEAKLTSR", "IGE"}, // what is left keeps its order
	})
}

// Step 4: all that wait fire, in rounds.
func TestStrongWithEphemeronsThatFire(t *testing.T) {
	strong(t, []strongCase{
		{"E!KV K V", "E", "EKV", "E"},
		{"E!KV K V:K", "E", "EKV", "E"},
		{"E!KK K", "E", "EK", "E"},
		{"E!KV K V A:K", "E", "EKV", "E"},
		{"E!KV K V W?K", "WE", "WEKV", "E"},
		{"E!KV F!LK K L V", "FE", "FELKV", "FE"},
		{"E!KL F!LK K L", "EF", "EFKL", "EF"},
		{"E!FX F!EX X", "E", "EFX", "E"},
		{"E!KV K V F!LW L W A:L", "EFA", "EFALWKV", "E"},
		{"E!FV F!KW K V W", "E", "EFVKW", "EF"},
		{"E!KF F!LV K L V", "E", "EKFLV", "EF"},                      // two rounds
		{"F!LX E!KG G!MV K L M V X", "EF", "EFKGLXMV", "EFG"},        // the later round behind the earlier one
		{"E!KFL F!LV K L V", "E", "EKFLV", "E"},                      // one that fires saves another one
		{"E!KF F!LG G!MH H!N K L M N", "E", "EKFLGMHN", "EFGH"},      // four rounds
		{"E!KG F!LH G!MV H!MW K L M V W", "FE", "FELHKGMWV", "FEHG"}, // two rounds of two
		{"E!KG F!LHM G!MV H!MW K L M V W", "EF", "EFKGLHMVW", "EF"},
		{"A:E B:F E!K F!K K", "BA", "BAFEK", "FE"},
	})
}

// The formats of those that would fire stay, and so they would fire again.
func TestStrongAgain(t *testing.T) {
	r := scene(t, "E!KF F!LV K L V W?V", "WE")
	for range 3 {
		r.lives("WEKFLV", "EF")
		same(t, "format", r.head(r.at('E')).Format, api.FormatEphemeron)
		same(t, "queued", r.h.Queued(), 0)
		same(t, "weak oop", oopsOf(t, r.h, r.at('W'))[0], r.at('V'))
	}
	r.collects()
	r.lives("WEKFLV", "")
}

// Marks from before say nothing.
func TestStrongWithMarks(t *testing.T) {
	for _, marked := range []string{"A", "B", "X", "K", "E", "ABXKE"} {
		r := scene(t, "A:B B:C C X E!KV K V", "AE")
		for _, o := range r.all(marked) {
			r.h.Mark(o, true)
		}
		r.lives("AEBCKV", "E")
		r.collects()
	}
}

// Random tangles of objects of all kinds, most of them ephemerons.
func TestStrongInTangles(t *testing.T) {
	rounds := 0
	for seed := range uint64(1500) {
		p := &player{begin(t, wide()), seed}
		var l []api.Oop
		for i := range 4 + p.draw(20) {
			f := []api.Format{1, 2, 3, 3, 3, 3, 4}[p.draw(7)]
			l = append(l, p.of([]api.Space{api.Old, api.Eden}[p.draw(2)], byte(i), f, 1+p.draw(3)))
		}
		for _, o := range l {
			for i := range oopsOf(t, p.h, o) {
				p.set(o, i, l[p.draw(len(l))])
			}
		}
		p.push(l[p.draw(len(l))], l[p.draw(len(l))])
		p.asks()
		_, fired := graph.Strong(p.h)
		if len(fired) > 1 {
			rounds++
		}
		p.collects()
		if t.Failed() {
			t.Fatalf("seed %d", seed)
		}
	}
	if rounds < 100 {
		t.Errorf("%d with more than one that fires", rounds)
	}
}

// Chains of very many ephemerons, that do not fire, and such as fire one in each round.
func TestStrongOfManyEphemerons(t *testing.T) {
	const n = 20000
	for _, fire := range []bool{false, true} {
		r := begin(t, api.Sizes{Eden: 64, Survivor: 16, Bound: 1 << 20})
		queue := r.of(api.Old, 'Q', api.FormatPointers, n)
		links, keys := make([]api.Oop, n), make([]api.Oop, n)
		for i := range links {
			links[i] = r.of(api.Old, 'E', api.FormatEphemeron, 2)
			keys[i] = r.of(api.Old, 'K', api.FormatPointers, 0)
			r.set(links[i], 0, keys[i])
		}
		for i := range n - 1 {
			if fire {
				r.set(links[i], 1, links[i+1])
			} else {
				r.set(links[i], 1, keys[i+1])
				r.set(queue, n-1-i, links[i])
			}
		}
		r.push(queue)
		if fire {
			r.set(queue, 0, links[0])
			living, fired := graph.Strong(r.h)
			sameList(t, "fire", fired, links)
			want := []api.Oop{queue, links[0]}
			for i := range n - 1 {
				want = append(want, keys[i], links[i+1])
			}
			sameList(t, "live", living, append(want, keys[n-1]))
			continue
		}
		r.set(queue, 0, links[n-1])
		r.push(keys[0])
		living, fired := graph.Strong(r.h)
		sameList(t, "fire", fired, nil)
		slices.Reverse(links)
		sameList(t, "live", living, slices.Concat([]api.Oop{queue, keys[0]}, links, keys[1:]))
	}
}
