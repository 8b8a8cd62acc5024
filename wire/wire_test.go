package wire_test

import (
	"hash/crc32"
	"math"
	"strings"
	"testing"

	"palaver/api"
	"palaver/wire"
)

// The exact signatures: a caller may keep these functions in variables.
var (
	_ func(string, ...uint64) string                        = wire.Put
	_ func(string, int) (uint64, int, api.Errno)            = wire.Take
	_ func(string) uint32                                   = wire.Sum
	_ func(tag, content string) (string, api.Errno)         = wire.Chunk
	_ func(string, int) (string, string, int, api.Errno)    = wire.Next
	_ func(string) (l []api.File, err api.Errno, where int) = wire.Chunks
)

const longest = 16777216

// littleEndian writes a number's lowest bytes by division, not by shifts.
func littleEndian(n uint64, size int) string {
	var b []byte
	for range size {
		b = append(b, byte(n%256))
		n /= 256
	}
	return string(b)
}

// frame is a chunk as the document defines it, with whatever tag; its checksum is the library's.
func frame(tag, content string) string {
	sum := crc32.ChecksumIEEE([]byte(tag + content))
	return tag + littleEndian(uint64(len(content)), 4) + content + littleEndian(uint64(sum), 4)
}

// sampleBytes is a string of any bytes, by a fixed rule.
func sampleBytes(size int, seed uint64) string {
	b := make([]byte, size)
	for i := range b {
		seed = seed*6364136223846793005 + 1442695040888963407
		b[i] = byte(seed >> 56)
	}
	return string(b)
}

// sampleNumbers holds small words, the neighbours of the powers of two, and words spread over all bits.
func sampleNumbers() []uint64 {
	l := []uint64{0, math.MaxUint64, 0x0102030405060708, 0x8877665544332211}
	for bit := range 64 {
		l = append(l, 1<<bit, 1<<bit-1, 1<<bit+1)
	}
	n := uint64(1)
	for range 500 {
		n = n*6364136223846793005 + 1442695040888963407
		l = append(l, n, n>>32)
	}
	return l
}

func sampleContents() []string {
	l := []string{"", "a", "\x00", "\xff", "tags", "ä", strings.Repeat("\x00", 300), strings.Repeat("\xff", 300), frame("tags", "in")}
	for size := range 40 {
		l = append(l, sampleBytes(size, uint64(size)))
	}
	for _, size := range []int{255, 256, 257, 65535, 65536, 65537} {
		l = append(l, sampleBytes(size, 7))
	}
	return l
}

func changed(b string, at int, to byte) string {
	return b[:at] + string([]byte{to}) + b[at+1:]
}

func takes(t *testing.T, b string, at int, n uint64, end int) {
	t.Helper()
	if gotN, gotEnd, err := wire.Take(b, at); gotN != n || gotEnd != end || err != api.OK {
		t.Errorf("Take(%.60q, %d): %d %d %d, not %d %d", b, at, gotN, gotEnd, err, n, end)
	}
}

func takesNot(t *testing.T, b string, at int, want api.Errno) {
	t.Helper()
	if n, end, err := wire.Take(b, at); n != 0 || end != at || err != want {
		t.Errorf("Take(%.60q, %d): %d %d %d, not the error %d", b, at, n, end, err, want)
	}
}

func chunks(t *testing.T, tag, content, want string) {
	t.Helper()
	if b, err := wire.Chunk(tag, content); b != want || err != api.OK {
		t.Errorf("Chunk(%q, %.60q): %.60q %d, not %.60q", tag, content, b, err, want)
	}
}

func chunksNot(t *testing.T, tag, content string, want api.Errno) {
	t.Helper()
	if b, err := wire.Chunk(tag, content); b != "" || err != want {
		t.Errorf("Chunk(%q, %.60q): %.60q %d, not the error %d", tag, content, b, err, want)
	}
}

func nexts(t *testing.T, b string, at int, tag, content string, end int) {
	t.Helper()
	gotTag, gotContent, gotEnd, err := wire.Next(b, at)
	if gotTag != tag || gotContent != content || gotEnd != end || err != api.OK {
		t.Errorf("Next(%.60q, %d): %q %.60q %d %d, not %q %.60q %d", b, at, gotTag, gotContent, gotEnd, err, tag, content, end)
	}
}

func nextsNot(t *testing.T, b string, at int, want api.Errno) {
	t.Helper()
	if tag, content, end, err := wire.Next(b, at); tag != "" || content != "" || end != at || err != want {
		t.Errorf("Next(%.60q, %d): %q %.60q %d %d, not the error %d", b, at, tag, content, end, err, want)
	}
}

func goesThrough(t *testing.T, b string, want ...api.File) {
	t.Helper()
	l, err, where := wire.Chunks(b)
	if err != api.OK || where != 0 || len(l) != len(want) {
		t.Errorf("Chunks(%.60q): %d chunks %d %d, not %d chunks", b, len(l), err, where, len(want))
		return
	}
	for i := range want {
		if l[i] != want[i] {
			t.Errorf("Chunks(%.60q): %d is %.60q, not %.60q", b, i, l[i], want[i])
		}
	}
}

func stops(t *testing.T, b string, want api.Errno, where int) {
	t.Helper()
	if l, err, at := wire.Chunks(b); len(l) != 0 || err != want || at != where {
		t.Errorf("Chunks(%.60q): %.60q %d %d, not the error %d at %d", b, l, err, at, want, where)
	}
}

func TestErrorNumbers(t *testing.T) {
	if api.ErrArg != 1 || api.ErrWireShort != 20 || api.ErrWireLong != 21 || api.ErrWireSum != 22 || api.MaxImage != longest {
		t.Error("the numbers of the errors, or the limit, are not the document's")
	}
}

func TestPut(t *testing.T) {
	for _, c := range []struct {
		b    string
		l    []uint64
		want string
	}{
		{"", nil, ""},
		{"", []uint64{}, ""},
		{"", []uint64{258}, "\x02\x01\x00\x00\x00\x00\x00\x00"},
		{"", []uint64{0}, "\x00\x00\x00\x00\x00\x00\x00\x00"},
		{"", []uint64{math.MaxUint64}, "\xff\xff\xff\xff\xff\xff\xff\xff"},
		{"", []uint64{0x8877665544332211}, "\x11\x22\x33\x44\x55\x66\x77\x88"},
		{"x\x00\xff", nil, "x\x00\xff"},
		{"x\x00\xff", []uint64{1}, "x\x00\xff\x01\x00\x00\x00\x00\x00\x00\x00"},
		{"ab", []uint64{1 << 63, 2}, "ab\x00\x00\x00\x00\x00\x00\x00\x80\x02\x00\x00\x00\x00\x00\x00\x00"},
	} {
		if got := wire.Put(c.b, c.l...); got != c.want {
			t.Errorf("Put(%q, %d): %q, not %q", c.b, c.l, got, c.want)
		}
	}
}

// R2: a list that is handed in stays as it is, behind its length too.
func TestPutLeavesItsList(t *testing.T) {
	l := []uint64{1, 2, 3, 4}
	if b := wire.Put("", l[:2]...); b != littleEndian(1, 8)+littleEndian(2, 8) {
		t.Errorf("%q", b)
	}
	if l[0] != 1 || l[1] != 2 || l[2] != 3 || l[3] != 4 {
		t.Errorf("%d", l)
	}
}

func TestTake(t *testing.T) {
	b := "x" + littleEndian(258, 8) + littleEndian(math.MaxUint64, 8)
	takes(t, b, 1, 258, 9)
	takes(t, b, 9, math.MaxUint64, 17)
	takes(t, b, 0, 258*256+'x', 8)
	takes(t, b, 2, 0xff00000000000001, 10)
	takes(t, littleEndian(0, 8), 0, 0, 8)
}

func TestTakeWhereNoWordIs(t *testing.T) {
	for _, size := range []int{0, 1, 7, 8, 9, 16, 17} {
		b := sampleBytes(size, 3)
		takesNot(t, b, -1, api.ErrArg)
		takesNot(t, b, math.MinInt, api.ErrArg)
		takesNot(t, b, -size-1, api.ErrArg)
		takesNot(t, b, size+1, api.ErrArg)
		takesNot(t, b, size+8, api.ErrArg)
		takesNot(t, b, math.MaxInt, api.ErrArg)
		for left := 0; left <= 7 && left <= size; left++ {
			takesNot(t, b, size-left, api.ErrWireShort)
		}
		if size >= 8 {
			if _, end, err := wire.Take(b, size-8); end != size || err != api.OK {
				t.Errorf("Take with 8 bytes left: %d %d", end, err)
			}
		}
	}
}

// T2: Take after Put returns the words, whatever surrounds them.
func TestWordsGoRound(t *testing.T) {
	numbers := sampleNumbers()
	for _, around := range []string{"", "a", "1234567", "12345678", "\x00\xff\x00", sampleBytes(100, 5)} {
		b := wire.Put(around, numbers...)
		want := around
		for _, n := range numbers {
			want += littleEndian(n, 8)
		}
		if b != want {
			t.Fatalf("Put behind %q", around)
		}
		at := len(around)
		for _, n := range numbers {
			takes(t, b+around, at, n, at+8)
			at += 8
		}
	}
}

// T2: what is put in two calls is what is put in one.
func TestPutGoesOn(t *testing.T) {
	numbers := sampleNumbers()
	b := "start"
	for _, n := range numbers {
		b = wire.Put(b, n)
	}
	if b != wire.Put("start", numbers...) {
		t.Error("words that are put one by one")
	}
}

func TestSum(t *testing.T) {
	for _, c := range []struct {
		b   string
		sum uint32
	}{
		{"", 0},
		{"123456789", 3421780262},
		{"a", 0xe8b7be43},
		{"\x00", 0xd202ef8d},
		{"\xff", 0xff000000},
		{"\xff\xff\xff\xff", 0xffffffff},
		{"tags", 0x6fbc9426},
		{"tagsa", 0x3ad5872a},
	} {
		if sum := wire.Sum(c.b); sum != c.sum {
			t.Errorf("Sum(%q): %x, not %x", c.b, sum, c.sum)
		}
	}
	for low := range 256 {
		for high := range 256 {
			sums(t, string([]byte{byte(low), byte(high)}))
		}
	}
	for _, b := range sampleContents() {
		sums(t, b)
	}
}

func sums(t *testing.T, b string) {
	t.Helper()
	if sum, want := wire.Sum(b), crc32.ChecksumIEEE([]byte(b)); sum != want {
		t.Errorf("Sum(%.60q): %x, not %x", b, sum, want)
	}
}

func TestChunk(t *testing.T) {
	chunks(t, "tags", "", "tags\x00\x00\x00\x00\x26\x94\xbc\x6f")
	chunks(t, "tags", "a", "tags\x01\x00\x00\x00a\x2a\x87\xd5\x3a")
	for _, tag := range []string{"aaaa", "zzzz", "azaz", "tags", "mind"} {
		for _, content := range sampleContents() {
			chunks(t, tag, content, frame(tag, content))
		}
	}
}

func TestChunkWithNoTag(t *testing.T) {
	for _, tag := range []string{"", "t", "tag", "tagss", "tagstags", "Tag1", "tags\x00", "\x00\x00\x00\x00", "TAGS", "1234", "täg", "äö"} {
		chunksNot(t, tag, "", api.ErrArg)
		chunksNot(t, tag, "content", api.ErrArg)
	}
}

// Each of a tag's bytes at 'a', at 'z', and one beyond.
func TestBoundsOfTags(t *testing.T) {
	for place := range 4 {
		for b := range 256 {
			tag := changed("mmmm", place, byte(b))
			whole := frame(tag, "content")
			if b >= 97 && b <= 122 {
				chunks(t, tag, "content", whole)
				nexts(t, whole, 0, tag, "content", len(whole))
				goesThrough(t, whole, api.File{Name: tag, Text: "content"})
			} else {
				chunksNot(t, tag, "content", api.ErrArg)
				nextsNot(t, whole, 0, api.ErrArg)
				stops(t, whole, api.ErrArg, 0)
			}
		}
	}
}

// A content of MaxImage bytes, and of one more; the tag is asked ahead of the length.
func TestLongContents(t *testing.T) {
	content := strings.Repeat("palaver!", longest/8)
	whole := frame("long", content)
	chunks(t, "long", content, whole)
	nexts(t, whole, 0, "long", content, longest+12)
	goesThrough(t, whole, api.File{Name: "long", Text: content})
	nextsNot(t, whole[:len(whole)-1], 0, api.ErrWireShort)
	nextsNot(t, changed(whole, longest, 'x'), 0, api.ErrWireSum)

	content += "x"
	chunksNot(t, "long", content, api.ErrWireLong)
	chunksNot(t, "Long", content, api.ErrArg)
	nextsNot(t, frame("long", content), 0, api.ErrWireLong)
	nextsNot(t, frame("Long", content), 0, api.ErrArg)
	stops(t, whole+frame("long", content), api.ErrWireLong, len(whole))
}

func TestNext(t *testing.T) {
	for _, ahead := range []string{"", "z", "zz", "\x00\x00\x00\x00\x00", frame("more", "x")} {
		for _, behind := range []string{"", "z", "\x00\x00\x00\x00", frame("next", "y")} {
			for _, content := range sampleContents() {
				whole := frame("tags", content)
				nexts(t, ahead+whole+behind, len(ahead), "tags", content, len(ahead)+len(whole))
			}
		}
	}
}

func TestNextWherePlacesEnd(t *testing.T) {
	whole := frame("tags", "content")
	for _, b := range []string{"", "t", "tags\x00\x00\x00", "tags\x00\x00\x00\x00", whole, whole + "zz"} {
		for _, at := range []int{-1, math.MinInt, -len(b) - 1, len(b) + 1, len(b) + 12, math.MaxInt} {
			nextsNot(t, b, at, api.ErrArg)
		}
		nextsNot(t, b, len(b), api.ErrWireShort)
	}
}

// 7 bytes left are too few for any head, 8 are one: with a tag that is none, ErrArg tells which.
func TestNextWhereBytesAreLeft(t *testing.T) {
	for _, head := range []string{"tags\xff\xff\xff\xff", "Tags\x00\x00\x00\x00", "tags\x00\x00\x00\x00", "\x00\x00\x00\x00\x00\x00\x00\x00"} {
		for left := range 8 {
			nextsNot(t, "zz"+head[:left], 2, api.ErrWireShort)
		}
	}
	nextsNot(t, "zzTags\x00\x00\x00\x00", 2, api.ErrArg)
	nextsNot(t, "zz\x00\x00\x00\x00\x00\x00\x00\x00", 2, api.ErrArg)
	nextsNot(t, "zztags\x00\x00\x00\x00", 2, api.ErrWireShort)
}

// The content with and without the four bytes behind it.
func TestNextWhereChunksAreCut(t *testing.T) {
	for _, content := range []string{"", "a", "ab", "abcd", "content", sampleBytes(300, 2)} {
		whole := frame("tags", content)
		nextsNot(t, whole[:0], 0, api.ErrWireShort)
		for end := 1; end < len(whole); end++ {
			nextsNot(t, whole[:end], 0, api.ErrWireShort)
			nextsNot(t, "zz"+whole[:end], 2, api.ErrWireShort)
			stops(t, whole[:end], api.ErrWireShort, 0)
			stops(t, whole+whole[:end], api.ErrWireShort, len(whole))
		}
		nexts(t, whole, 0, "tags", content, len(whole))
	}
}

// Lengths that no int of 32 bits holds, MaxImage, and one more.
func TestNextWhereLengthsAreWrong(t *testing.T) {
	for _, length := range []uint64{longest + 1, longest + 256, 1 << 25, 1<<31 - 1, 1 << 31, 1<<32 - 4, 1<<32 - 1} {
		nextsNot(t, "tags"+littleEndian(length, 4), 0, api.ErrWireLong)
		nextsNot(t, "zztags"+littleEndian(length, 4)+"content", 2, api.ErrWireLong)
	}
	for _, length := range []uint64{0, 1, 7, 8, 9, 256, longest - 1, longest} {
		nextsNot(t, "tags"+littleEndian(length, 4), 0, api.ErrWireShort)
	}
}

// Where several errors apply, the first one of the chapter's row is told.
func TestOrderOfErrors(t *testing.T) {
	const tooLong, tooShort = "\x01\x00\x00\x01", "\x08\x00\x00\x00"
	nextsNot(t, "Tag", -1, api.ErrArg)
	nextsNot(t, "Tag", 4, api.ErrArg)
	nextsNot(t, "Tags\x01\x00\x00", 0, api.ErrWireShort)
	nextsNot(t, "Tags"+tooLong, 0, api.ErrArg)
	nextsNot(t, "Tags"+tooShort+"content", 0, api.ErrArg)
	nextsNot(t, "Tags\x00\x00\x00\x00nono", 0, api.ErrArg)
	nextsNot(t, "tags"+tooLong+"content", 0, api.ErrWireLong)
	nextsNot(t, "tags"+tooShort+"contentnon", 0, api.ErrWireShort)
	nextsNot(t, "tags"+tooShort+"contentsnon", 0, api.ErrWireShort)
	nextsNot(t, "tags"+tooShort+"contentsnono", 0, api.ErrWireSum)
	chunksNot(t, "Tags", strings.Repeat("a", longest+1), api.ErrArg)
}

// What holds: a byte of the tag, the content or the checksum that is changed is found.
func TestChangedBytesAreFound(t *testing.T) {
	for _, content := range []string{"", "a", "content", "\x00\x00\x00\x00\x00\x00\x00\x00", sampleBytes(60, 4)} {
		whole := frame("tags", content)
		for at := range whole {
			for to := range 256 {
				if byte(to) == whole[at] || at >= 4 && at < 8 || at < 4 && (to < 'a' || to > 'z') {
					continue
				}
				nextsNot(t, changed(whole, at, byte(to)), 0, api.ErrWireSum)
			}
		}
		for at := range len(whole) - 8 {
			stops(t, whole+changed(whole, at+8, ^whole[at+8])+whole, api.ErrWireSum, len(whole))
		}
	}
}

// The checksum is that of the tag and the content, without the length between them.
func TestWhatTheChecksumIsOf(t *testing.T) {
	head := "tags" + littleEndian(7, 4)
	nexts(t, head+"content"+littleEndian(uint64(crc32.ChecksumIEEE([]byte("tagscontent"))), 4), 0, "tags", "content", 19)
	for _, b := range []string{"content", "contenttags", head + "content", "tags", ""} {
		nextsNot(t, head+"content"+littleEndian(uint64(crc32.ChecksumIEEE([]byte(b))), 4), 0, api.ErrWireSum)
	}
}

// T2: Next after Chunk returns tag and content, whatever surrounds them, and Chunk of these returns the same bytes.
func TestChunksGoRound(t *testing.T) {
	for _, around := range []string{"", "a", "12345678", frame("near", "by"), sampleBytes(50, 6)} {
		for _, content := range sampleContents() {
			whole, err := wire.Chunk("tags", content)
			if err != api.OK {
				t.Fatal(err)
			}
			at := len(around)
			tag, got, end, err := wire.Next(around+whole+around, at)
			if tag != "tags" || got != content || end != at+len(whole) || err != api.OK {
				t.Fatalf("Next(%.60q, %d): %q %.60q %d %d", around+whole, at, tag, got, end, err)
			}
			chunks(t, tag, got, whole)
		}
	}
}

func TestChunks(t *testing.T) {
	goesThrough(t, "")
	one, two, three := api.File{Name: "ones", Text: ""}, api.File{Name: "twos", Text: "two"}, api.File{Name: "ones", Text: frame("tags", "inner")}
	goesThrough(t, frame(one.Name, one.Text), one)
	goesThrough(t, frame(one.Name, one.Text)+frame(two.Name, two.Text)+frame(three.Name, three.Text), one, two, three)
	goesThrough(t, frame(two.Name, two.Text)+frame(two.Name, two.Text), two, two)
}

// T2: Chunks of chunks in a row returns all of them, in order.
func TestManyChunksGoRound(t *testing.T) {
	var all strings.Builder
	var want []api.File
	for i, content := range sampleContents() {
		tag := string([]byte{'a' + byte(i%26), 'z' - byte(i%7), 'm', 'a' + byte(i/26)})
		whole, err := wire.Chunk(tag, content)
		if err != api.OK {
			t.Fatal(err)
		}
		all.WriteString(whole)
		want = append(want, api.File{Name: tag, Text: content})
		goesThrough(t, all.String(), want...)
	}
}

// T7: bytes that are no chunks are told with the first place at which none is, and nothing is made of them.
func TestChunksOfWhatIsNone(t *testing.T) {
	good := frame("good", "content")
	for _, ahead := range []string{"", good, good + good, good + frame("more", "") + good} {
		for _, c := range []struct {
			b   string
			err api.Errno
		}{
			{"g", api.ErrWireShort},
			{"good\x00\x00\x00", api.ErrWireShort},
			{"good\x00\x00\x00\x00", api.ErrWireShort},
			{"Good\x00\x00\x00\x00", api.ErrArg},
			{"\x00\x00\x00\x00\x00\x00\x00\x00", api.ErrArg},
			{"good\xff\xff\xff\xff", api.ErrWireLong},
			{changed(good, 10, 'x'), api.ErrWireSum},
			{changed(good, len(good)-1, good[len(good)-1]^1), api.ErrWireSum},
		} {
			stops(t, ahead+c.b, c.err, len(ahead))
		}
		stops(t, ahead+changed(good, 9, 'x')+good, api.ErrWireSum, len(ahead))
		stops(t, ahead+changed(good, 9, 'x')+"g", api.ErrWireSum, len(ahead))
	}
}

// R2: two lists of the same bytes share nothing.
func TestListsAreNew(t *testing.T) {
	b := frame("ones", "1") + frame("twos", "2") + frame("tres", "3")
	one, _, _ := wire.Chunks(b)
	two, _, _ := wire.Chunks(b)
	one[0].Text = "changed"
	_ = append(one[:1], api.File{Name: "else"})
	if len(two) != 3 || two[0].Text != "1" || two[1].Name != "twos" {
		t.Errorf("%q", two)
	}
	goesThrough(t, b, api.File{Name: "ones", Text: "1"}, api.File{Name: "twos", Text: "2"}, api.File{Name: "tres", Text: "3"})
}

func TestExamplesOfTheChapter(t *testing.T) {
	b := wire.Put("", 258)
	if b != "\x02\x01\x00\x00\x00\x00\x00\x00" {
		t.Errorf("%q", b)
	}
	takes(t, b, 0, 258, 8)
	takesNot(t, b, 1, api.ErrWireShort)
	takesNot(t, b, 9, api.ErrArg)
	if wire.Sum("") != 0 || wire.Sum("123456789") != 3421780262 || wire.Sum("123456789") != 0xcbf43926 {
		t.Error("Sum")
	}
	chunks(t, "tags", "", "\x74\x61\x67\x73\x00\x00\x00\x00\x26\x94\xbc\x6f")
	chunks(t, "tags", "a", "\x74\x61\x67\x73\x01\x00\x00\x00\x61\x2a\x87\xd5\x3a")
	chunksNot(t, "Tag1", "", api.ErrArg)
}
