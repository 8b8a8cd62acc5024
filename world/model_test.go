package world_test

import (
	"slices"
	"strings"
	"testing"

	"palaver/api"
	"palaver/world"
)

// A model of a world that keeps nothing but what was there at the start and the list of all writes: bytes are computed anew each time.

type modelWrite struct {
	file   int
	cut    bool
	at     int
	text   string
	synced bool
}

type modelHandle struct {
	file   int // -1: a host's
	mode   int
	at     int
	closed bool
	stale  bool
}

type model struct {
	choices []api.Choice
	clock   int64
	dead    bool
	trace   []api.Deed
	starts  []string // a file's bytes at the start
	names   []string // "": removed
	log     []modelWrite
	handles []modelHandle // the first one has the number 1
}

func modelOf(choices []api.Choice, files []api.File) *model {
	m := &model{choices: slices.Clone(choices)}
	for _, f := range files {
		m.names, m.starts = append(m.names, f.Name), append(m.starts, f.Text)
	}
	return m
}

func replay(b string, c modelWrite) string {
	if c.cut {
		return ""
	}
	for len(b) < c.at {
		b += "\x00"
	}
	rest := ""
	if end := c.at + len(c.text); end < len(b) {
		rest = b[end:]
	}
	return b[:c.at] + c.text + rest
}

func (m *model) bytes(file int) string {
	b := m.starts[file]
	for _, c := range m.log {
		if c.file == file {
			b = replay(b, c)
		}
	}
	return b
}

func (m *model) find(name string) int {
	return slices.Index(m.names, name)
}

func (m *model) files() []api.File {
	var l []api.File
	for file, name := range m.names {
		if name != "" {
			l = append(l, api.File{Name: name, Text: m.bytes(file)})
		}
	}
	slices.SortFunc(l, func(a, b api.File) int { return strings.Compare(a.Name, b.Name) })
	return l
}

func (m *model) left(which uint64) []api.File {
	kept := map[int]string{}
	for file := range m.names {
		kept[file] = m.starts[file]
	}
	number := 0
	for _, c := range m.log {
		if m.names[c.file] == "" {
			continue
		}
		if c.synced {
			kept[c.file] = replay(kept[c.file], c)
			continue
		}
		if number < 64 && which/(1<<number)%2 == 1 {
			kept[c.file] = replay(kept[c.file], c)
		}
		number++
	}
	l := m.files()
	for i, f := range l {
		l[i].Text = kept[m.find(f.Name)]
	}
	return l
}

func (m *model) open() int {
	n := 0
	for _, h := range m.handles {
		if !h.closed && !h.stale {
			n++
		}
	}
	return n
}

// handle is the handle with a number, if it is of a file, or of a host.
func (m *model) handle(number int, ofFile, ofHost bool) (*modelHandle, api.Errno) {
	if number < 1 || number > len(m.handles) {
		return nil, 30
	}
	h := &m.handles[number-1]
	if h.closed || h.file >= 0 && !ofFile || h.file < 0 && !ofHost {
		return nil, 30
	}
	if h.stale {
		return nil, 31
	}
	return h, 0
}

func (m *model) perform(q asked) api.Deed {
	d := q.deed()
	choice := api.Choice{}
	if len(m.choices) > 0 && !m.dead {
		choice, m.choices = m.choices[0], m.choices[1:]
	}
	if m.dead || choice.Kind == 5 {
		m.dead = true
		d.Err = 36
		return d
	}
	bad := choice.N >= 30 && choice.N <= 35
	switch {
	case q.Kind <= 8 && choice.Kind == 4 && bad:
		d.Err = api.Errno(choice.N)
	case q.Kind <= 8:
		d.Err = m.onFiles(&d)
	case q.Kind == 9:
		if choice.Kind == 1 && choice.N >= 0 && choice.N <= 1e12 {
			m.clock += choice.N
		}
		d.N = m.clock
	default:
		d.Err = m.onHosts(&d, choice)
	}
	m.trace = append(m.trace, d)
	return d
}

func (m *model) onFiles(d *api.Deed) api.Errno {
	switch d.Kind {
	case api.DeedOpen:
		return m.opens(d)
	case api.DeedRename, api.DeedDelete:
		return m.renamesOrDeletes(d)
	case api.DeedClose:
		h, err := m.handle(d.Handle, true, true)
		if err == 0 {
			h.closed = true
		}
		return err
	}
	h, err := m.handle(d.Handle, true, false)
	if err != 0 {
		return err
	}
	b := m.bytes(h.file)
	switch d.Kind {
	case api.DeedRead:
		if h.mode != 1 {
			return 33
		}
		if d.N < 0 {
			return 1
		}
		for n := d.N; n > 0 && h.at < len(b); n-- {
			d.Text += b[h.at : h.at+1]
			h.at++
		}
	case api.DeedWrite:
		if h.mode == 1 {
			return 33
		}
		if h.mode == 3 {
			h.at = len(b)
		}
		m.log = append(m.log, modelWrite{file: h.file, at: h.at, text: d.Text})
		h.at += len(d.Text)
	case api.DeedSeek:
		if d.N < 0 || d.N > int64(len(b)) {
			return 1
		}
		h.at = int(d.N)
	case api.DeedSync:
		for i := range m.log {
			m.log[i].synced = m.log[i].synced || m.log[i].file == h.file
		}
	}
	return 0
}

func (m *model) opens(d *api.Deed) api.Errno {
	if !isNameByDocument(d.Text) {
		return 35
	}
	if d.N < 1 || d.N > 3 {
		return 33
	}
	file := m.find(d.Text)
	if file < 0 && d.N == 1 {
		return 32
	}
	if m.open() >= 32 || file < 0 && len(m.files()) >= 64 {
		return 34
	}
	if file < 0 {
		file = len(m.names)
		m.names, m.starts = append(m.names, d.Text), append(m.starts, "")
	}
	if d.N == 2 {
		m.log = append(m.log, modelWrite{file: file, cut: true})
	}
	m.handles = append(m.handles, modelHandle{file: file, mode: int(d.N)})
	d.Handle = len(m.handles)
	return 0
}

// renamesOrDeletes is what renames and deletes.
func (m *model) renamesOrDeletes(d *api.Deed) api.Errno {
	if !isNameByDocument(d.Text) || d.Kind == api.DeedRename && !isNameByDocument(d.To) {
		return 35
	}
	file := m.find(d.Text)
	if file < 0 {
		return 32
	}
	if d.Kind == api.DeedDelete {
		m.names[file] = ""
		return 0
	}
	if other := m.find(d.To); other >= 0 {
		m.names[other] = ""
	}
	m.names[file] = d.To
	return 0
}

func (m *model) onHosts(d *api.Deed, choice api.Choice) api.Errno {
	bad := choice.N >= 30 && choice.N <= 35
	switch d.Kind {
	case api.DeedConnect:
		if !isNameByDocument(d.Text) {
			return 35
		}
		if choice.Kind != 2 || choice.Text != d.Text {
			return 32
		}
		if bad {
			return api.Errno(choice.N)
		}
		if m.open() >= 32 {
			return 34
		}
		m.handles = append(m.handles, modelHandle{file: -1})
		d.Handle = len(m.handles)
	case api.DeedSend, api.DeedReceive:
		if _, err := m.handle(d.Handle, false, true); err != 0 || d.Kind == api.DeedSend {
			return err
		}
		if d.N < 0 {
			return 1
		}
		if choice.Kind == 3 && bad {
			return api.Errno(choice.N)
		}
		if choice.Kind == 3 {
			d.Text = choice.Text[:min(d.N, int64(len(choice.Text)))]
		}
	}
	return 0
}

func (m *model) signal() (int64, bool) {
	if m.dead || len(m.choices) == 0 || m.choices[0].Kind != 6 {
		return 0, false
	}
	n := m.choices[0].N
	m.choices = m.choices[1:]
	return n, true
}

func (m *model) size(number int) (int, api.Errno) {
	if m.dead {
		return 0, 36
	}
	h, err := m.handle(number, true, false)
	if err != 0 {
		return 0, err
	}
	return len(m.bytes(h.file)), 0
}

func (m *model) stale() {
	for i := range m.handles {
		m.handles[i].stale = m.handles[i].stale || !m.handles[i].closed
	}
}

// dice throws by a fixed rule.
type dice uint64

func (d *dice) below(n int) int {
	*d = *d*6364136223846793005 + 1442695040888963407
	return int(uint64(*d) >> 33 % uint64(n))
}

func pick[E any](d *dice, l ...E) E {
	return l[d.below(len(l))]
}

func (d *dice) choice() api.Choice {
	kind := pick(d, api.ChoiceNothing, api.ChoiceNothing, 0, api.ChoiceClock, api.ChoiceHost, api.ChoiceHost, api.ChoiceBytes, api.ChoiceFault, api.ChoiceSignal, 9)
	if d.below(200) == 0 {
		kind = api.ChoiceCrash
	}
	return api.Choice{Kind: kind, N: pick(d, 0, 0, 0, 1, 7, int64(28+d.below(10))), Text: pick(d, "h", "h", "h", "a", "", "hello")}
}

func (d *dice) name() string {
	return pick(d, "a", "a", "b", "b", "c", "d", "h", "no name", "")
}

func (d *dice) handle(m *model) int {
	if d.below(8) == 0 {
		return d.below(len(m.handles)+3) - 1
	}
	return max(1, len(m.handles)-d.below(4))
}

func (d *dice) asked(m *model) asked {
	h := d.handle(m)
	text := pick(d, "", "x", "yz", "long text")
	switch d.below(24) {
	case 0, 1, 2:
		return opens(d.name(), 1+d.below(3))
	case 3:
		return opens(d.name(), d.below(5))
	case 4, 5:
		return reads(h, d.below(6)-1)
	case 6, 7, 8, 9, 10:
		return writes(h, text)
	case 11:
		return seeks(h, d.below(8)-1)
	case 12:
		return syncs(h)
	case 13:
		return closes(h)
	case 14, 15:
		return renames(d.name(), d.name())
	case 16:
		return deletes(d.name())
	case 17:
		return clocks()
	case 18, 19:
		return connects(pick(d, "h", "h", d.name()))
	case 20:
		return sends(h, text)
	case 21:
		return receives(h, d.below(6)-1)
	case 22:
		return shows(text)
	}
	return quits(int64(d.below(9)))
}

// agree holds a world against the model.
func agree(t *testing.T, w *world.World, m *model, d *dice) {
	t.Helper()
	if !slices.Equal(w.Trace(), m.trace) || w.Dead() != m.dead {
		t.Fatalf("trace: %+v, not %+v", w.Trace(), m.trace)
	}
	if !slices.Equal(w.Files(), m.files()) {
		t.Fatalf("files: %q, not %q", w.Files(), m.files())
	}
	for _, which := range []uint64{0, 1<<64 - 1, uint64(d.below(1 << 16)), uint64(d.below(1<<31)) << d.below(40)} {
		if got, want := w.Left(which).Files(), m.left(which); !slices.Equal(got, want) {
			t.Fatalf("Left(%b): %q, not %q", which, got, want)
		}
	}
	for handle := range len(m.handles) + 2 {
		n, err := w.Size(handle)
		if wantN, wantErr := m.size(handle); n != wantN || err != wantErr {
			t.Fatal("size", handle, n, err, wantN, wantErr)
		}
	}
}

func TestAsTheModel(t *testing.T) {
	for seed := range 600 {
		d := dice(seed)
		var choices []api.Choice
		for range d.below(150) {
			choices = append(choices, d.choice())
		}
		files := []api.File{{Name: "a", Text: "start"}, {Name: "d", Text: "xyz"}}
		w, m := made(t, choices, files...), modelOf(choices, files)
		for range 120 {
			q := d.asked(m)
			if got, want := q.perform(w), m.perform(q); got != want {
				t.Fatalf("seed %d: %+v answered %+v, not %+v", seed, q, got, want)
			}
			switch d.below(40) {
			case 0:
				w.Stale()
				m.stale()
			case 1, 2, 3, 4:
				n, is := w.Signal()
				if wantN, want := m.signal(); n != wantN || is != want {
					t.Fatal("signal", n, is, wantN, want)
				}
			case 5:
				agree(t, w, m, &d)
			}
		}
		agree(t, w, m, &d)
	}
}

// The same calls with the same choices make the same trace, and if there are at most 64 unsynced writes, Left with all bits set has the files unchanged.
func TestWhatHolds(t *testing.T) {
	for seed := range 100 {
		d := dice(seed)
		var choices []api.Choice
		for range 40 {
			choices = append(choices, d.choice())
		}
		v, w, m := made(t, choices), made(t, choices), modelOf(choices, nil)
		for range 64 {
			q := d.asked(m)
			m.perform(q)
			if q.perform(v) != q.perform(w) {
				t.Fatalf("%+v differs", q)
			}
		}
		if !slices.Equal(v.Trace(), w.Trace()) || !slices.Equal(v.Files(), w.Files()) {
			t.Error("two worlds differ")
		}
		if !slices.Equal(w.Left(1<<64-1).Files(), w.Files()) {
			t.Error("something was lost")
		}
	}
}
