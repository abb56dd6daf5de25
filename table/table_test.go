package table_test

import (
	"bytes"
	"crypto/sha256"
	"encoding/hex"
	"fmt"
	"math"
	"slices"
	"strings"
	"testing"

	"bartizan/api"
	"bartizan/bloom"
	"bartizan/ikey"
	"bartizan/memo"
	"bartizan/table"
)

func version(user string, seq uint64, kind byte) api.Key {
	return api.Key{User: []byte(user), Seq: seq, Kind: kind}
}

func put(user string, seq uint64, value string) api.Entry {
	return api.Entry{Key: version(user, seq, api.Put), Value: []byte(value)}
}

func del(user string, seq uint64) api.Entry {
	return api.Entry{Key: version(user, seq, api.Delete)}
}

func span(from, to string, seq uint64) api.Span {
	return api.Span{From: []byte(from), To: []byte(to), Seq: seq}
}

// alike tells whether two entries have the same fields.
func alike(a, b api.Entry) bool {
	return bytes.Equal(a.Key.User, b.Key.User) && a.Key.Seq == b.Key.Seq && a.Key.Kind == b.Key.Kind && bytes.Equal(a.Value, b.Value)
}

// same tells whether two spans have the same fields.
func same(a, b api.Span) bool {
	return bytes.Equal(a.From, b.From) && bytes.Equal(a.To, b.To) && a.Seq == b.Seq
}

// text makes one of so many bytes, each unlike its neighbours.
func text(size int) string {
	p := make([]byte, size)
	for i := range p {
		p[i] = byte(i*7 + i>>8 + 1)
	}
	return string(p)
}

// numbered makes so many entries that rise, with keys and values of these sizes.
func numbered(count, user, value int) []api.Entry {
	var l []api.Entry
	for i := range count {
		key := text(user)[:user-2] + string([]byte{byte(i >> 8), byte(i)})
		l = append(l, put(key, uint64(1000+i), text(value)))
	}
	return l
}

// ranges makes so many right spans, no two the same.
func ranges(count int) []api.Span {
	var l []api.Span
	for i := range count {
		l = append(l, span(string([]byte{'r', byte(i >> 8), byte(i)}), "s", uint64(count-i)))
	}
	return l
}

// content is entries and spans.
type content struct {
	l     []api.Entry
	spans []api.Span
}

func example() content {
	return content{[]api.Entry{put("a", 1, "x"), put("c", 3, "y")}, []api.Span{span("b", "d", 2)}}
}

// rights holds contents at the edges of the chapter's words.
func rights() []content {
	long := text(api.MaxKey)
	return []content{
		example(),
		{[]api.Entry{put("a", 1, "x")}, nil},
		{[]api.Entry{del("\x00", 0)}, []api.Span{}},
		{nil, []api.Span{span("a", "b", 1)}},
		{[]api.Entry{}, []api.Span{span("\x00", "\x00\x00", api.MaxSeq)}},
		{nil, []api.Span{span("x", "z", 5), span("a", "y", 7), span("x", "z", 5), span("x", "z", 5)}},
		{nil, []api.Span{span(long[:63], long, 240), span(long, "\xff"+long[:63], 241), span("\x00", long, 67824)}},
		{[]api.Entry{put(long, api.MaxSeq, text(512)), put(long, 0, ""), del("\xff", 3)}, []api.Span{span("\x00", long, api.MaxSeq)}},
		{[]api.Entry{put("a", 5, "x"), del("a", 5), put("a", 4, "y"), del("a", 3), del("a", 0)}, nil},
		{[]api.Entry{{Key: version("a", 3, api.Delete), Value: []byte("v")}, put("b", 3, "")}, nil},
		{numbered(7, 2, 1), ranges(1)},
		{numbered(8, 2, 1), ranges(2)},
		{numbered(9, 2, 1), nil},
		{numbered(15, 3, 3), nil},
		{numbered(16, 3, 3), ranges(3)},
		{numbered(17, 3, 0), nil},
		{numbered(64, 64, 512), nil},
		{numbered(65, 4, 2), ranges(65)},
		{versions("k", 200), nil},
		{numbered(999, 3, 2), ranges(999)},
		{numbered(1000, 3, 2), ranges(1000)},
		{numbered(1000, 64, 512), nil},
		{nil, ranges(1000)},
		{numbered(1, 2, 0), ranges(1000)},
		{numbered(1000, 2, 0), ranges(1)},
	}
}

// versions makes so many of one key.
func versions(user string, count int) []api.Entry {
	var l []api.Entry
	for i := range count {
		l = append(l, put(user, uint64(count-i), text(i%5)))
	}
	return l
}

func build(t *testing.T, c content) []byte {
	t.Helper()
	p, err := table.Build(c.l, c.spans)
	if err != api.OK {
		t.Fatalf("Build of %d and %d = %d", len(c.l), len(c.spans), err)
	}
	return p
}

func open(t *testing.T, c content) *table.Table {
	t.Helper()
	x, err := table.Open(build(t, c))
	if err != api.OK {
		t.Fatalf("Open of %d and %d = %d", len(c.l), len(c.spans), err)
	}
	return x
}

func TestLeaf(t *testing.T) {
	if table.Leaf != 8 {
		t.Errorf("Leaf = %d", table.Leaf)
	}
}

// Each byte is written out here: the leaves, the index, the filter, the spans, the foot.
func TestWrittenOut(t *testing.T) {
	nine := []api.Entry{}
	for i := range 9 {
		kind := byte(api.Put)
		if i%3 == 0 {
			kind = api.Delete
		}
		nine = append(nine, api.Entry{Key: version("k"+string(rune('a'+i)), uint64(i), kind), Value: []byte("vvv"[:i%4])})
	}
	for _, f := range []struct {
		c    content
		want string
	}{
		{example(), "000901610201000000000000780009016302030000000000007900000100e09bc64c" +
			"0163020300000000000022b24d3e91" + "0040042283502180066a399200" + "0162016402af54d150" +
			"220000000f0000000d000000090000001ab1e52a0da675"},
		{content{nil, []api.Span{span("b", "d", api.MaxSeq)}}, "d8ea82a2" + "00000000000000000661251ac1" +
			"01620164feffffffffffffff34a02fe7" + "00000000040000000d000000100000001ab1e55237dc77"},
		{content{nine, nil}, "000a006b610100000000000000010901620201000000000000760109026302020000000000007676" +
			"010903640103000000000000767676000a006b650204000000000000010901660205000000000000760109026701060000000000007676" +
			"010903680207000000000000767676000037000200c7a20604" + "000a006b690208000000000000000001002fbcf500" +
			"026b68020700000000000078026b69020800000000000015a8953e97" + "11c793ee61481a376e0d9a98063c0d302d" + "d8ea82a2" +
			"8d0000001c00000011000000040000001ab1e54bb71b33"},
	} {
		if p := build(t, f.c); hex.EncodeToString(p) != f.want {
			t.Errorf("Build(%v) = %x, want %s", f.c, p, f.want)
		}
	}
}

// The sum of a great table's bytes was reckoned by another program.
func TestGreatTable(t *testing.T) {
	var c content
	for i := range 1000 {
		c.l = append(c.l, put(fmt.Sprintf("key%03d", i/3), uint64(1000-i), strings.Repeat("w", i%513)))
		c.spans = append(c.spans, span(fmt.Sprintf("key%03d", i), "l", uint64(i+1)))
	}
	p := build(t, c)
	sum := fmt.Sprintf("%x", sha256.Sum256(p))
	if len(p) != 277929 || sum != "51955e0a1c919ce34102c44f4c6226ffc0c5d4d40f6b056d82ed0e260af8a815" {
		t.Errorf("%d bytes, %s", len(p), sum)
	}
}

func TestBuildIsAsThePlainOne(t *testing.T) {
	for _, c := range rights() {
		if p := build(t, c); string(p) != plain(c) {
			t.Errorf("Build of %d and %d: %d bytes", len(c.l), len(c.spans), len(p))
		}
	}
}

func TestOpenTellsWhatWasBuilt(t *testing.T) {
	for _, c := range rights() {
		x := open(t, c)
		if l := x.Entries(); !slices.EqualFunc(l, c.l, alike) {
			t.Errorf("Entries: %d that aren't the %d", len(l), len(c.l))
		}
		if l := x.Spans(); !slices.EqualFunc(l, c.spans, same) {
			t.Errorf("Spans: %d that aren't the %d", len(l), len(c.spans))
		}
		if n := x.Leaves(); n != int(math.Ceil(float64(len(c.l))/8)) {
			t.Errorf("Leaves = %d, of %d entries", n, len(c.l))
		}
		if last := x.Last(); last != c.last() {
			t.Errorf("Last = %d, want %d", last, c.last())
		}
		least, above := x.Bounds()
		wantLeast, wantAbove := c.bounds()
		if string(least) != wantLeast || string(above) != wantAbove {
			t.Errorf("Bounds = %q, %q, want %q, %q", least, above, wantLeast, wantAbove)
		}
	}
}

func refusesBuild(t *testing.T, l []api.Entry, spans []api.Span, want api.Errno) {
	t.Helper()
	if p, err := table.Build(l, spans); len(p) != 0 || err != want {
		t.Errorf("Build of %d and %d = %.200x, %d, want %d", len(l), len(spans), p, err, want)
	}
}

// wrong holds entries that aren't right, and why.
func wrong() map[api.Errno][]api.Entry {
	long := text(api.MaxValue + 1)
	return map[api.Errno][]api.Entry{
		api.ErrArg: {
			put("a", api.MaxSeq+1, ""),
			put("a", math.MaxUint64, ""),
			{Key: version("a", 1, 0)},
			{Key: version("a", 1, api.Range)},
			{Key: version("", 1, 255)},
			{Key: version(text(65), 1, 0), Value: []byte(long)},
			{},
		},
		api.ErrShort: {put("", 1, ""), put("", 1, long), del("", 0)},
		api.ErrLong: {
			put(text(65), 1, ""),
			del(text(300), 1),
			put("a", 1, long),
			{Key: version("a", 1, api.Delete), Value: []byte(long)},
		},
	}
}

// wrongSpans holds spans that aren't right.
func wrongSpans() []api.Span {
	return []api.Span{
		{},
		span("", "a", 1),
		span("a", "", 1),
		span("a", "a", 1),
		span("b", "a", 1),
		span("a", "b", 0),
		span("a", "b", api.MaxSeq+1),
		span("a", "b", math.MaxUint64),
		span(text(65), "\xff", 1),
		span("\x00", text(65), 1),
	}
}

// fallen holds two entries that don't rise, of each kind.
func fallen() [][]api.Entry {
	return [][]api.Entry{
		{put("b", 1, ""), put("a", 1, "")},
		{put("a", 1, "x"), put("a", 1, "y")},
		{put("a", 4, ""), put("a", 5, "")},
		{del("a", 5), put("a", 5, "")},
		{put("ab", 9, ""), put("a", 1, "")},
		{put("\x80", 1, ""), put("\x7f", 1, "")},
	}
}

func TestBuildOfTooMany(t *testing.T) {
	refusesBuild(t, numbered(1001, 3, 0), nil, api.ErrLong)
	refusesBuild(t, nil, ranges(1001), api.ErrLong)
	refusesBuild(t, numbered(1001, 3, 0), ranges(1001), api.ErrLong)
	refusesBuild(t, numbered(1000, 3, 0), ranges(1001), api.ErrLong)
	refusesBuild(t, numbered(1001, 3, 0), ranges(1000), api.ErrLong)
	// It goes ahead of all else that isn't right.
	refusesBuild(t, make([]api.Entry, 1001), nil, api.ErrLong)
	refusesBuild(t, make([]api.Entry, 1), make([]api.Span, 1001), api.ErrLong)
	refusesBuild(t, make([]api.Entry, 1000), make([]api.Span, 1000), api.ErrArg)
	refusesBuild(t, nil, make([]api.Span, 1000), api.ErrForm)
	refusesBuild(t, nil, make([]api.Span, 1001), api.ErrLong)
}

func TestBuildOfNone(t *testing.T) {
	refusesBuild(t, nil, nil, api.ErrShort)
	refusesBuild(t, []api.Entry{}, []api.Span{}, api.ErrShort)
}

func TestBuildOfWrong(t *testing.T) {
	for want, l := range wrong() {
		for _, e := range l {
			refusesBuild(t, []api.Entry{e}, nil, want)
			refusesBuild(t, []api.Entry{e}, ranges(2), want)
			refusesBuild(t, append(numbered(999, 2, 0), e), nil, want)
			refusesBuild(t, append([]api.Entry{e}, numbered(20, 2, 0)...), nil, want)
			// It goes ahead of an order, and of a span, that isn't right.
			refusesBuild(t, []api.Entry{e, e}, nil, want)
			refusesBuild(t, []api.Entry{put("z", 1, ""), put("y", 1, ""), e}, wrongSpans(), want)
			refusesBuild(t, append(slices.Repeat([]api.Entry{put("z", 1, "")}, 30), e), wrongSpans(), want)
			// The first one that isn't right tells the error.
			for _, others := range wrong() {
				refusesBuild(t, []api.Entry{e, others[0]}, nil, want)
				refusesBuild(t, append(append(numbered(15, 2, 0), e), others...), nil, want)
			}
		}
	}
}

func TestBuildOfWhatDoesNotRise(t *testing.T) {
	for _, l := range fallen() {
		refusesBuild(t, l, nil, api.ErrOrder)
		// Within a leaf, from one to the next, and ahead of a span that isn't right.
		for count := range 18 {
			refusesBuild(t, append(numbered(count, 2, 0), l...), nil, api.ErrOrder)
			refusesBuild(t, append(numbered(count, 2, 0), l...), wrongSpans(), api.ErrOrder)
		}
		refusesBuild(t, append(slices.Clone(l), put("\xff", 1, "")), ranges(1), api.ErrOrder)
	}
}

func TestBuildOfWrongSpans(t *testing.T) {
	for _, s := range wrongSpans() {
		refusesBuild(t, nil, []api.Span{s}, api.ErrForm)
		refusesBuild(t, numbered(9, 2, 0), []api.Span{s}, api.ErrForm)
		refusesBuild(t, numbered(9, 2, 0), append(ranges(999), s), api.ErrForm)
		refusesBuild(t, nil, append([]api.Span{s}, ranges(3)...), api.ErrForm)
	}
}

// finds fails unless the table tells just that.
func finds(t *testing.T, x *table.Table, key string, seq uint64, value string, by uint64, state int) {
	t.Helper()
	if v, n, s := x.Get([]byte(key), seq); string(v) != value || n != by || s != state {
		t.Errorf("Get(%q, %d) = %q, %d, %d, want %q, %d, %d", key, seq, v, n, s, value, by, state)
	}
}

func TestExample(t *testing.T) {
	x := open(t, example())
	finds(t, x, "c", 9, "y", 3, memo.Found)
	finds(t, x, "c", 2, "", 2, memo.Erased)
	if least, above := x.Bounds(); string(least) != "a" || string(above) != "d" {
		t.Errorf("Bounds = %q, %q", least, above)
	}
	if x.Leaves() != 1 || x.Last() != 3 {
		t.Errorf("Leaves = %d, Last = %d", x.Leaves(), x.Last())
	}
}

func TestGet(t *testing.T) {
	long := "e" + text(63)
	x := open(t, content{
		[]api.Entry{
			put("a", 9, "new"), put("a", 5, "both"), del("a", 5), put("a", 4, "old"), put("a", 0, "first"), put("a\x00", 3, "next"),
			{Key: version("b", 6, api.Delete), Value: []byte("v")}, put("b", 2, "x"), put("c", 7, "y"), put("d", 8, ""),
			del("e", 0), put(long, api.MaxSeq, "last"),
		},
		[]api.Span{span("c", "e", 7), span("a\x00", "b", 4), span("d", "f", api.MaxSeq-1), span("c", "d", 3)},
	})
	for _, c := range []struct {
		key   string
		seq   uint64
		value string
		by    uint64
		state int
	}{
		{"a", 0, "first", 0, memo.Found}, {"a", 3, "first", 0, memo.Found}, {"a", 4, "old", 4, memo.Found},
		// Of two of one Seq the one that stands first.
		{"a", 5, "both", 5, memo.Found}, {"a", 8, "both", 5, memo.Found}, {"a", 9, "new", 9, memo.Found},
		{"a", api.MaxSeq + 1, "new", 9, memo.Found}, {"a", math.MaxUint64, "new", 9, memo.Found},
		{"a\x00", 2, "", 0, memo.Unknown}, {"a\x00", 3, "next", 3, memo.Found}, {"a\x00", 4, "", 4, memo.Erased},
		{"a\x00\x00", 3, "", 0, memo.Unknown}, {"a\x00\x00", 4, "", 4, memo.Erased}, {"azzz", 9, "", 4, memo.Erased},
		// A Delete's value isn't told.
		{"b", 1, "", 0, memo.Unknown}, {"b", 5, "x", 2, memo.Found}, {"b", 6, "", 6, memo.Erased}, {"b", 9, "", 6, memo.Erased},
		// A span of the version's own Seq doesn't erase it.
		{"c", 2, "", 0, memo.Unknown}, {"c", 3, "", 3, memo.Erased}, {"c", 6, "", 3, memo.Erased}, {"c", 7, "y", 7, memo.Found},
		{"c", api.MaxSeq, "y", 7, memo.Found}, {"ca", 6, "", 3, memo.Erased}, {"ca", 7, "", 7, memo.Erased},
		{"d", 6, "", 0, memo.Unknown}, {"d", 7, "", 7, memo.Erased}, {"d", 8, "", 8, memo.Found},
		{"d", api.MaxSeq - 2, "", 8, memo.Found}, {"d", api.MaxSeq - 1, "", api.MaxSeq - 1, memo.Erased},
		{"e", 0, "", 0, memo.Erased}, {"e", 9, "", 0, memo.Erased}, {"e", api.MaxSeq, "", api.MaxSeq - 1, memo.Erased},
		{long, api.MaxSeq - 2, "", 0, memo.Unknown}, {long, api.MaxSeq - 1, "", api.MaxSeq - 1, memo.Erased},
		{long, api.MaxSeq, "last", api.MaxSeq, memo.Found}, {long, math.MaxUint64, "last", api.MaxSeq, memo.Found},
		{long + "z", math.MaxUint64, "", api.MaxSeq - 1, memo.Erased}, {long[:63], math.MaxUint64, "", api.MaxSeq - 1, memo.Erased},
		{"", math.MaxUint64, "", 0, memo.Unknown}, {"f", math.MaxUint64, "", 0, memo.Unknown}, {"\x00", 9, "", 0, memo.Unknown},
		{text(300), 9, "", 0, memo.Unknown}, {"\xff\xff", math.MaxUint64, "", 0, memo.Unknown},
	} {
		finds(t, x, c.key, c.seq, c.value, c.by, c.state)
	}
	if v, n, s := x.Get(nil, 9); len(v) != 0 || n != 0 || s != memo.Unknown {
		t.Errorf("Get(nil) = %q, %d, %d", v, n, s)
	}
}

// Each entry is found, wherever its leaf begins and ends.
func TestGetAmongLeaves(t *testing.T) {
	for _, count := range []int{1, 7, 8, 9, 16, 17, 1000} {
		c := content{l: numbered(count, 3, 4)}
		x := open(t, c)
		for _, e := range c.l {
			finds(t, x, string(e.Key.User), math.MaxUint64, string(e.Value), e.Key.Seq, memo.Found)
			finds(t, x, string(e.Key.User), e.Key.Seq, string(e.Value), e.Key.Seq, memo.Found)
			finds(t, x, string(e.Key.User), e.Key.Seq-1, "", 0, memo.Unknown)
			finds(t, x, string(ikey.After(e.Key.User)), math.MaxUint64, "", 0, memo.Unknown)
			finds(t, x, string(e.Key.User[:2]), math.MaxUint64, "", 0, memo.Unknown)
		}
		c = content{l: versions("k", count)}
		x = open(t, c)
		for i, e := range c.l {
			finds(t, x, "k", uint64(count-i), string(e.Value), e.Key.Seq, memo.Found)
		}
		finds(t, x, "k", 0, "", 0, memo.Unknown)
	}
}

func TestBounds(t *testing.T) {
	long := text(api.MaxKey)
	for _, c := range []struct {
		c            content
		least, above string
	}{
		{content{[]api.Entry{put("b", 1, "")}, nil}, "b", "b\x00"},
		{content{[]api.Entry{put("b", 1, ""), put("d", 1, "")}, nil}, "b", "d\x00"},
		{content{nil, []api.Span{span("b", "d", 1)}}, "b", "d"},
		{content{nil, []api.Span{span("b", "d", 1), span("c", "f", 2), span("a", "e", 3)}}, "a", "f"},
		{content{[]api.Entry{put("b", 1, "")}, []api.Span{span("a", "c", 1)}}, "a", "c"},
		{content{[]api.Entry{put("d", 1, "")}, []api.Span{span("a", "c", 1)}}, "a", "d\x00"},
		{content{[]api.Entry{put("a", 1, "")}, []api.Span{span("b", "c", 1)}}, "a", "c"},
		{content{[]api.Entry{put("c", 1, "")}, []api.Span{span("a", "c", 1)}}, "a", "c\x00"},
		{content{[]api.Entry{put("c", 1, "")}, []api.Span{span("c", "c\x00", 1)}}, "c", "c\x00"},
		{content{[]api.Entry{put("c", 1, "")}, []api.Span{span("c", "c\x00\x00", 1)}}, "c", "c\x00\x00"},
		{content{[]api.Entry{put("c", 1, "")}, []api.Span{span("c\x00", "c\x01", 1)}}, "c", "c\x01"},
		{content{[]api.Entry{put("\x00", 0, "")}, []api.Span{span("\x00", "\xff", 1)}}, "\x00", "\xff"},
		// The key above all may be longer than any that there is.
		{content{[]api.Entry{put(long, 1, "")}, nil}, long, long + "\x00"},
		{content{[]api.Entry{put(long, 1, "")}, []api.Span{span(long[:2], long, 1)}}, long[:2], long + "\x00"},
	} {
		if least, above := open(t, c.c).Bounds(); string(least) != c.least || string(above) != c.above {
			t.Errorf("Bounds of %v = %q, %q, want %q, %q", c.c, least, above, c.least, c.above)
		}
	}
}

func TestLast(t *testing.T) {
	for _, c := range []struct {
		c    content
		want uint64
	}{
		{content{[]api.Entry{put("a", 0, "")}, nil}, 0},
		{content{[]api.Entry{put("a", 7, ""), put("b", 9, ""), put("c", 8, "")}, nil}, 9},
		{content{[]api.Entry{put("a", 7, ""), del("b", api.MaxSeq)}, []api.Span{span("a", "b", 8)}}, api.MaxSeq},
		{content{[]api.Entry{put("a", 7, "")}, []api.Span{span("a", "b", 8), span("a", "b", 6)}}, 8},
		{content{nil, []api.Span{span("a", "b", 6), span("a", "b", api.MaxSeq), span("a", "b", 5)}}, api.MaxSeq},
	} {
		if last := open(t, c.c).Last(); last != c.want {
			t.Errorf("Last of %v = %d, want %d", c.c, last, c.want)
		}
	}
}

func TestMay(t *testing.T) {
	for _, c := range rights() {
		x := open(t, c)
		var keys [][]byte
		for _, e := range c.l {
			keys = append(keys, e.Key.User)
			if !x.May(e.Key.User) {
				t.Errorf("May(%q) is false", e.Key.User)
			}
		}
		filter := bloom.Build(10, keys...)
		no := 0
		for i := range 500 {
			key := []byte(fmt.Sprint("other", i))
			if x.May(key) != bloom.Has(filter, key) {
				t.Errorf("May(%q) = %t", key, x.May(key))
			}
			if !x.May(key) {
				no++
			}
		}
		if no < 400 {
			t.Errorf("of 500 others only %d are told not to be there", no)
		}
		if x.May(nil) != bloom.Has(filter, nil) {
			t.Errorf("May(nil) = %t", x.May(nil))
		}
	}
	// Spans are none of the filter's.
	x := open(t, content{nil, []api.Span{span("a", "c", 1)}})
	if x.May([]byte("a")) || x.May([]byte("b")) {
		t.Error("May of a span's key is true")
	}
	finds(t, x, "b", 1, "", 1, memo.Erased)
}

func TestNil(t *testing.T) {
	var x *table.Table
	for _, key := range [][]byte{nil, []byte("a"), []byte(text(300))} {
		for _, seq := range []uint64{0, 9, math.MaxUint64} {
			if v, n, s := x.Get(key, seq); len(v) != 0 || n != 0 || s != memo.Unknown {
				t.Errorf("Get(%q, %d) = %q, %d, %d", key, seq, v, n, s)
			}
		}
		if !x.May(key) {
			t.Errorf("May(%q) is false", key)
		}
	}
	least, above := x.Bounds()
	if len(x.Entries()) != 0 || len(x.Spans()) != 0 || len(least) != 0 || len(above) != 0 || x.Leaves() != 0 || x.Last() != 0 {
		t.Errorf("%v, %v, %q, %q, %d, %d", x.Entries(), x.Spans(), least, above, x.Leaves(), x.Last())
	}
}
