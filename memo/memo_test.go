package memo_test

import (
	"bytes"
	"math"
	"slices"
	"strconv"
	"strings"
	"testing"

	"bartizan/api"
	"bartizan/batch"
	"bartizan/ikey"
	"bartizan/memo"
)

func put(key, value string) api.Op {
	return api.Op{Kind: api.Put, Key: []byte(key), Value: []byte(value)}
}

func del(key string) api.Op {
	return api.Op{Kind: api.Delete, Key: []byte(key)}
}

func span(from, to string) api.Op {
	return api.Op{Kind: api.Range, Key: []byte(from), Value: []byte(to)}
}

// text makes one of so many bytes, each unlike its neighbours.
func text(size int) string {
	p := make([]byte, size)
	for i := range p {
		p[i] = byte(i*7 + 1)
	}
	return string(p)
}

// roomy copies p in front of spare room whose bytes are known.
func roomy(p string) []byte {
	q := bytes.Repeat([]byte{0xa5}, len(p)+16)
	copy(q, p)
	return q[:len(p)]
}

// untouched tells whether q, which roomy made of p, is as it was.
func untouched(q []byte, p string) bool {
	return bytes.Equal(q[:len(p)+16], append([]byte(p), bytes.Repeat([]byte{0xa5}, 16)...))
}

// spoil writes over bytes and their spare room.
func spoil(p []byte) {
	p = p[:cap(p)]
	for i := range p {
		p[i] = 0x5a
	}
}

// told writes all that a memo tells, but what Get finds, as one text.
func told(m *memo.Memo) string {
	var b strings.Builder
	for _, e := range m.Entries() {
		b.WriteString(strconv.Quote(string(e.Key.User)) + " at " + strconv.FormatUint(e.Key.Seq, 10))
		b.WriteString(" kind " + strconv.Itoa(int(e.Key.Kind)) + " = " + strconv.Quote(string(e.Value)) + "; ")
	}
	for _, s := range m.Spans() {
		b.WriteString(strconv.Quote(string(s.From)) + " to " + strconv.Quote(string(s.To)))
		b.WriteString(" at " + strconv.FormatUint(s.Seq, 10) + "; ")
	}
	b.WriteString("size " + strconv.Itoa(m.Size()) + " last " + strconv.FormatUint(m.Last(), 10))
	return b.String()
}

// tells fails unless the memo tells just that.
func tells(t *testing.T, m *memo.Memo, want string) {
	t.Helper()
	if got := told(m); got != want {
		t.Errorf("told %s, want %s", got, want)
	}
}

// finds fails unless that is what is found of the key.
func finds(t *testing.T, m *memo.Memo, key string, seq uint64, value string, state int) {
	t.Helper()
	if v, s := m.Get([]byte(key), seq); string(v) != value || s != state {
		t.Errorf("Get(%q, %d) = %q, %d, want %q, %d", key, seq, v, s, value, state)
	}
}

// do fails unless the op is done.
func do(t *testing.T, m *memo.Memo, o api.Op, seq uint64) {
	t.Helper()
	if err := m.Do(o, seq, 1); err != api.OK {
		t.Fatalf("Do(%v, %d) = %d", o, seq, err)
	}
}

// example is the chapter's.
func example(t *testing.T) *memo.Memo {
	t.Helper()
	m := memo.New()
	do(t, m, put("a", "x"), 1)
	do(t, m, span("a", "c"), 2)
	do(t, m, put("b", "y"), 3)
	return m
}

const exampleTold = `"a" at 1 kind 2 = "x"; "b" at 3 kind 2 = "y"; "a" to "c" at 2; size 54 last 3`

func TestTheExample(t *testing.T) {
	m := example(t)
	finds(t, m, "a", 1, "x", memo.Found)
	finds(t, m, "a", 3, "", memo.Erased)
	finds(t, m, "b", 9, "y", memo.Found)
	finds(t, m, "b", 2, "", memo.Erased)
	finds(t, m, "c", 9, "", memo.Unknown)
	tells(t, m, exampleTold)
}

func TestTheNumbersOfWhatIsFound(t *testing.T) {
	if memo.Unknown != 0 || memo.Found != 1 || memo.Erased != 2 {
		t.Errorf("%d, %d, %d", memo.Unknown, memo.Found, memo.Erased)
	}
}

func TestOfNothing(t *testing.T) {
	m := memo.New()
	tells(t, m, "size 0 last 0")
	for _, seq := range []uint64{0, 1, api.MaxSeq, math.MaxUint64} {
		finds(t, m, "a", seq, "", memo.Unknown)
		finds(t, m, "", seq, "", memo.Unknown)
	}
}

func TestOfANilMemo(t *testing.T) {
	var m *memo.Memo
	for _, o := range []api.Op{{}, put("a", "x"), del("a"), span("b", "a")} {
		for _, seq := range []uint64{0, 1, math.MaxUint64} {
			for _, h := range []int{0, 1, api.MaxHeight + 1} {
				if err := m.Do(o, seq, h); err != api.ErrNone {
					t.Errorf("Do(%v, %d, %d) = %d", o, seq, h, err)
				}
				if err := m.Batch([]api.Op{o}, seq, h); err != api.ErrNone {
					t.Errorf("Batch(%v, %d, %d) = %d", o, seq, h, err)
				}
			}
		}
	}
	if err := m.Batch(nil, 1); err != api.ErrNone {
		t.Errorf("Batch of none = %d", err)
	}
	tells(t, m, "size 0 last 0")
	finds(t, m, "a", 1, "", memo.Unknown)
}

func TestKinds(t *testing.T) {
	m := memo.New()
	do(t, m, put("a", "x"), 1)
	do(t, m, del("a"), 2)
	do(t, m, put("a", ""), 3)
	do(t, m, span("a", "b"), 4)
	do(t, m, del("c"), 5)
	tells(t, m, `"a" at 3 kind 2 = ""; "a" at 2 kind 1 = ""; "a" at 1 kind 2 = "x"; "c" at 5 kind 1 = ""; "a" to "b" at 4; size 87 last 5`)
	finds(t, m, "a", 1, "x", memo.Found)
	finds(t, m, "a", 2, "", memo.Erased)
	finds(t, m, "a", 3, "", memo.Found)
	finds(t, m, "a", 4, "", memo.Erased)
	finds(t, m, "c", 4, "", memo.Unknown)
	finds(t, m, "c", 5, "", memo.Erased)
}

// wrongOp is an op, and what is wrong with it.
type wrongOp struct {
	o    api.Op
	want api.Errno
}

func wrongOps() []wrongOp {
	long := text(api.MaxKey + 1)
	return []wrongOp{
		{api.Op{}, api.ErrArg},
		{api.Op{Kind: 4, Key: []byte("a")}, api.ErrArg},
		{put(long, ""), api.ErrLong},
		{put("a", text(api.MaxValue+1)), api.ErrLong},
		{span("\x00", long), api.ErrLong},
		{put("", "x"), api.ErrForm},
		{del(""), api.ErrForm},
		{api.Op{Kind: api.Delete, Key: []byte("a"), Value: []byte("x")}, api.ErrForm},
		{span("", "a"), api.ErrForm},
		{span("a", ""), api.ErrForm},
		{span("a", "a"), api.ErrForm},
		{span("b", "a"), api.ErrForm},
	}
}

func TestDoOfWrong(t *testing.T) {
	for _, c := range wrongOps() {
		// The op's error goes first, whatever its number, and whatever else is wrong.
		for _, seq := range []uint64{4, 3, 0, api.MaxSeq + 1} {
			for _, h := range []int{1, 0, api.MaxHeight + 1} {
				m := example(t)
				if err := m.Do(c.o, seq, h); err != c.want {
					t.Errorf("Do(%v, %d, %d) = %d, want %d", c.o, seq, h, err, c.want)
				}
				tells(t, m, exampleTold)
			}
		}
	}
	for _, c := range []struct {
		seq    uint64
		height int
		want   api.Errno
	}{
		{0, 1, api.ErrSeq}, {api.MaxSeq + 1, 1, api.ErrSeq}, {math.MaxUint64, 1, api.ErrSeq},
		{4, 0, api.ErrArg}, {4, -1, api.ErrArg}, {4, api.MaxHeight + 1, api.ErrArg},
		{4, math.MaxInt, api.ErrArg}, {4, math.MinInt, api.ErrArg},
		{3, 1, api.ErrOrder}, {2, 1, api.ErrOrder}, {1, api.MaxHeight, api.ErrOrder},
		// The number goes first, then the height, then the order.
		{0, 0, api.ErrSeq}, {api.MaxSeq + 1, 9, api.ErrSeq}, {3, 0, api.ErrArg}, {1, 9, api.ErrArg},
	} {
		for _, o := range []api.Op{put("m", "z"), del("a"), span("a", "z")} {
			m := example(t)
			if err := m.Do(o, c.seq, c.height); err != c.want {
				t.Errorf("Do(%v, %d, %d) = %d, want %d", o, c.seq, c.height, err, c.want)
			}
			tells(t, m, exampleTold)
			finds(t, m, "b", 9, "y", memo.Found)
		}
	}
}

func TestDoAtTheEdges(t *testing.T) {
	for h := 1; h <= api.MaxHeight; h++ {
		for _, o := range []api.Op{
			put(text(api.MaxKey), text(api.MaxValue)), del(text(api.MaxKey)), span("\x00", text(api.MaxKey)), put("a", ""),
		} {
			m := memo.New()
			if err := m.Do(o, api.MaxSeq, h); err != api.OK {
				t.Errorf("Do(%v) = %d", o, err)
			}
			if m.Last() != api.MaxSeq || m.Size() != 16+len(o.Key)+len(o.Value) {
				t.Errorf("%s", told(m))
			}
			// No number is above the last one.
			if err := m.Do(o, api.MaxSeq, h); err != api.ErrOrder {
				t.Errorf("Do(%v) = %d", o, err)
			}
		}
	}
}

func TestNumbersMayHaveGaps(t *testing.T) {
	m := memo.New()
	do(t, m, put("a", "x"), 10)
	do(t, m, span("a", "b"), 1000)
	for _, seq := range []uint64{11, 999, 1000} {
		if err := m.Do(put("a", "y"), seq, 1); err != api.ErrOrder {
			t.Errorf("Do at %d = %d", seq, err)
		}
	}
	do(t, m, put("a", "y"), api.MaxSeq)
	finds(t, m, "a", 9, "", memo.Unknown)
	finds(t, m, "a", 10, "x", memo.Found)
	finds(t, m, "a", 999, "x", memo.Found)
	finds(t, m, "a", 1000, "", memo.Erased)
	finds(t, m, "a", api.MaxSeq-1, "", memo.Erased)
	finds(t, m, "a", api.MaxSeq, "y", memo.Found)
	finds(t, m, "a", api.MaxSeq+1, "y", memo.Found)
	finds(t, m, "a", math.MaxUint64, "y", memo.Found)
}

func TestBatch(t *testing.T) {
	l := []api.Op{put("a", "x"), span("a", "c"), put("b", "y"), del("d"), put("a", "z")}
	for _, heights := range [][]int{
		nil, {3}, {1, 2, 3, 4}, {8, 8, 8, 8, 8}, {1, 1, 1, 1, 1, 0}, {1, 2, 3, 4, 5, -1, 9, math.MaxInt},
	} {
		m := memo.New()
		do(t, m, put("a", "old"), 4)
		if err := m.Batch(l, 7, heights...); err != api.OK {
			t.Fatalf("Batch with %v = %d", heights, err)
		}
		tells(t, m, `"a" at 11 kind 2 = "z"; "a" at 7 kind 2 = "x"; "a" at 4 kind 2 = "old"; "b" at 9 kind 2 = "y"; `+
			`"d" at 10 kind 1 = ""; "a" to "c" at 8; size 109 last 11`)
		finds(t, m, "a", 3, "", memo.Unknown)
		finds(t, m, "a", 6, "old", memo.Found)
		finds(t, m, "a", 7, "x", memo.Found)
		finds(t, m, "b", 7, "", memo.Unknown)
		finds(t, m, "b", 8, "", memo.Erased)
		finds(t, m, "a", 10, "", memo.Erased)
		finds(t, m, "d", 10, "", memo.Erased)
		finds(t, m, "a", 11, "z", memo.Found)
	}
}

func TestBatchOfWrong(t *testing.T) {
	two := []api.Op{put("m", "z"), del("n")}
	for _, c := range []struct {
		what    string
		l       []api.Op
		seq     uint64
		heights []int
		want    api.Errno
	}{
		{"seq 0", two, 0, nil, api.ErrSeq},
		{"seq too great", two, api.MaxSeq + 1, nil, api.ErrSeq},
		{"the last one's too great", two, api.MaxSeq, nil, api.ErrSeq},
		{"the last one's would go round", two, math.MaxUint64, nil, api.ErrSeq},
		{"all of them go round", slices.Repeat(two, 32), math.MaxUint64 - 10, nil, api.ErrSeq},
		{"64 ops, one too many", slices.Repeat(two, 32), api.MaxSeq - 62, nil, api.ErrSeq},
		{"empty, seq 0", nil, 0, nil, api.ErrSeq},
		{"empty, seq too great", nil, api.MaxSeq + 1, nil, api.ErrSeq},
		{"empty, seq the greatest", []api.Op{}, math.MaxUint64, nil, api.ErrSeq},
		{"the first height", two, 4, []int{0, 1}, api.ErrArg},
		{"the last height", two, 4, []int{1, 9}, api.ErrArg},
		{"one height", two, 4, []int{-1}, api.ErrArg},
		{"a range's height", []api.Op{span("a", "b")}, 4, []int{0}, api.ErrArg},
		{"a height used, and one not", two, 4, []int{1, 0, 0}, api.ErrArg},
		{"seq is Last", two, 3, nil, api.ErrOrder},
		{"seq is below Last", two, 2, nil, api.ErrOrder},
		{"seq is below Last, the last one's above", slices.Repeat(two, 32), 1, nil, api.ErrOrder},
		{"empty, seq is Last", nil, 3, nil, api.ErrOrder},
		{"empty, seq is below Last", nil, 1, []int{0, 9}, api.ErrOrder},
		{"too many", slices.Repeat(two, 33)[:65], 4, nil, api.ErrLong},
		// Their order.
		{"too many, and wrong", slices.Repeat([]api.Op{{}}, 65), 0, []int{0}, api.ErrLong},
		{"wrong, seq, height", append(slices.Clone(two), api.Op{}), 0, []int{0}, api.ErrArg},
		{"wrong in form, height", append(slices.Clone(two), del("")), 4, []int{0}, api.ErrForm},
		{"wrong in form, order", append(slices.Clone(two), del("")), 1, nil, api.ErrForm},
		{"the first wrong one", []api.Op{two[0], del(""), {}}, 4, nil, api.ErrForm},
		{"seq, height", two, 0, []int{0}, api.ErrSeq},
		{"last seq, height", two, api.MaxSeq, []int{0}, api.ErrSeq},
		{"height, order", two, 3, []int{1, 0}, api.ErrArg},
	} {
		m := example(t)
		if err := m.Batch(c.l, c.seq, c.heights...); err != c.want {
			t.Errorf("%s: Batch = %d, want %d", c.what, err, c.want)
		}
		tells(t, m, exampleTold)
		finds(t, m, "m", math.MaxUint64, "", memo.Unknown)
	}
}

// Of each wrong op, wherever it stands, nothing of the batch is done.
func TestBatchIsAllOrNothing(t *testing.T) {
	for _, c := range wrongOps() {
		for at := range 3 {
			l := slices.Insert([]api.Op{put("m", "z"), span("a", "z")}, at, c.o)
			for _, seq := range []uint64{4, 3, 0, api.MaxSeq} {
				m := example(t)
				if err := m.Batch(l, seq, 1, 2, 9); err != c.want {
					t.Errorf("Batch(%v, %d) = %d, want %d", l, seq, err, c.want)
				}
				tells(t, m, exampleTold)
				finds(t, m, "b", 9, "y", memo.Found)
			}
		}
	}
}

func TestBatchAtTheEdges(t *testing.T) {
	full := slices.Repeat([]api.Op{put("a", "x")}, api.MaxOps)
	m := memo.New()
	if err := m.Batch(full, api.MaxSeq-63); err != api.OK {
		t.Errorf("the greatest numbers: %d", err)
	}
	if len(m.Entries()) != api.MaxOps || m.Last() != api.MaxSeq || m.Size() != 18*api.MaxOps {
		t.Errorf("%s", told(m))
	}
	if err := m.Batch(nil, api.MaxSeq); err != api.ErrOrder {
		t.Errorf("none at Last: %d", err)
	}
	m = memo.New()
	if err := m.Batch(full[:1], api.MaxSeq, 8); err != api.OK || m.Last() != api.MaxSeq {
		t.Errorf("one at MaxSeq: %d", err)
	}
}

func TestBatchOfNone(t *testing.T) {
	m := memo.New()
	for _, seq := range []uint64{1, 7, api.MaxSeq} {
		for _, heights := range [][]int{nil, {1}, {0}, {9, -1}} {
			if err := m.Batch(nil, seq, heights...); err != api.OK {
				t.Errorf("Batch(none, %d, %v) = %d", seq, heights, err)
			}
		}
	}
	// It uses up no number.
	tells(t, m, "size 0 last 0")
	do(t, m, put("a", "x"), 1)
	if err := m.Batch([]api.Op{}, 2); err != api.OK || m.Last() != 1 {
		t.Errorf("Batch = %d, Last = %d", err, m.Last())
	}
}

func TestGetAmongNeighbours(t *testing.T) {
	m := memo.New()
	do(t, m, put("b", "1"), 1)
	do(t, m, put("bb", "2"), 2)
	do(t, m, put("b\x00", "3"), 3)
	do(t, m, put("b", "4"), 4)
	do(t, m, span("d", "f"), 5)
	for _, c := range []struct {
		key   string
		seq   uint64
		value string
		state int
	}{
		{"", 9, "", memo.Unknown}, {"a", 9, "", memo.Unknown}, {"b", 0, "", memo.Unknown},
		{"b", 1, "1", memo.Found}, {"b", 2, "1", memo.Found}, {"b", 3, "1", memo.Found}, {"b", 4, "4", memo.Found},
		{"b\x00", 2, "", memo.Unknown}, {"b\x00", 3, "3", memo.Found}, {"b\x00\x00", 9, "", memo.Unknown},
		{"ba", 9, "", memo.Unknown}, {"bb", 1, "", memo.Unknown}, {"bb", 2, "2", memo.Found}, {"bbb", 9, "", memo.Unknown},
		{"c\xff", 9, "", memo.Unknown}, {"d", 4, "", memo.Unknown}, {"d", 5, "", memo.Erased}, {"d\x00", 9, "", memo.Erased},
		{"e", math.MaxUint64, "", memo.Erased}, {"e\xff\xff", 5, "", memo.Erased}, {"f", 9, "", memo.Unknown}, {"\xff", 9, "", memo.Unknown},
		// No version has so long a key, but a span may cover it.
		{"e" + text(100), 9, "", memo.Erased}, {"b" + text(100), 9, "", memo.Unknown},
	} {
		finds(t, m, c.key, c.seq, c.value, c.state)
	}
	if v, s := m.Get(nil, 9); len(v) != 0 || s != memo.Unknown {
		t.Errorf("Get(nil) = %q, %d", v, s)
	}
}

// A span erases what is older alone; of several the greatest that may be looked at counts.
func TestGetUnderSpans(t *testing.T) {
	m := memo.New()
	do(t, m, span("a", "m"), 1)
	do(t, m, put("b", "x"), 2)
	do(t, m, span("b", "c"), 3)
	do(t, m, span("a", "z"), 4)
	do(t, m, put("b", "y"), 5)
	do(t, m, del("b"), 6)
	do(t, m, span("a", "b"), 7)
	for i, state := range []int{
		memo.Unknown, memo.Erased, memo.Found, memo.Erased, memo.Erased, memo.Found, memo.Erased, memo.Erased, memo.Erased,
	} {
		finds(t, m, "b", uint64(i), map[int]string{2: "x", 5: "y"}[i], state)
	}
	finds(t, m, "y", 3, "", memo.Unknown)
	finds(t, m, "y", 4, "", memo.Erased)
	tells(t, m, `"b" at 6 kind 1 = ""; "b" at 5 kind 2 = "y"; "b" at 2 kind 2 = "x"; `+
		`"a" to "m" at 1; "b" to "c" at 3; "a" to "z" at 4; "a" to "b" at 7; size 125 last 7`)
}

func TestSpansAsTheyCame(t *testing.T) {
	m := memo.New()
	do(t, m, span("x", "z"), 1)
	do(t, m, span("a", "y"), 2)
	do(t, m, span("x", "z"), 3)
	tells(t, m, `"x" to "z" at 1; "a" to "y" at 2; "x" to "z" at 3; size 54 last 3`)
}

func TestMemoryOfWhatIsHandedIn(t *testing.T) {
	a, x, from, to := roomy("ab"), roomy("xyz"), roomy("c"), roomy("de")
	room := []api.Op{{Kind: api.Put, Key: a, Value: x}, {Kind: api.Range, Key: from, Value: to}, put("behind", "")}
	heights := []int{2, 3, 4}
	m := memo.New()
	if err := m.Batch(room[:2], 1, heights[:1]...); err != api.OK {
		t.Fatal(err)
	}
	for i, o := range room[:2] {
		if err := m.Do(o, uint64(3+i), 1); err != api.OK {
			t.Fatal(err)
		}
	}
	m.Get(a, 9)
	if !untouched(a, "ab") || !untouched(x, "xyz") || !untouched(from, "c") || !untouched(to, "de") {
		t.Errorf("an argument has changed: %q, %q, %q, %q", a, x, from, to)
	}
	if !slices.Equal(heights, []int{2, 3, 4}) || string(room[2].Key) != "behind" {
		t.Errorf("an argument has changed: %v, %v", heights, room)
	}
	for _, p := range [][]byte{a, x, from, to} {
		spoil(p)
	}
	clear(room)
	tells(t, m, `"ab" at 3 kind 2 = "xyz"; "ab" at 1 kind 2 = "xyz"; "c" to "de" at 2; "c" to "de" at 4; size 80 last 4`)
}

func TestMemoryOfAnswers(t *testing.T) {
	m := example(t)
	for range 2 {
		v, _ := m.Get([]byte("b"), 9)
		again, _ := m.Get([]byte("b"), 9)
		spoil(v)
		if string(again) != "y" {
			t.Errorf("two answers share memory: %q", again)
		}
		l, spans := m.Entries(), m.Spans()
		spoil(l[0].Key.User)
		if string(l[0].Value) != "x" || string(l[1].Key.User) != "b" || string(l[1].Value) != "y" {
			t.Errorf("texts of one answer share memory: %v", l)
		}
		spoil(spans[0].From)
		if string(spans[0].To) != "c" {
			t.Errorf("texts of one answer share memory: %v", spans)
		}
		for _, e := range l {
			spoil(e.Key.User)
			spoil(e.Value)
		}
		spoil(spans[0].To)
		clear(l[:cap(l)])
		clear(spans[:cap(spans)])
		tells(t, m, exampleTold)
		finds(t, m, "b", 9, "y", memo.Found)
	}
}

// done is an op, and the number at which it was done.
type done struct {
	o   api.Op
	seq uint64
}

// model is a memo in the plainest way: what was done, looked through from its end.
type model []done

func (m model) get(key string, seq uint64) (string, int) {
	for _, d := range slices.Backward(m) {
		if d.seq > seq {
			continue
		}
		if o, ok := batch.Over([]api.Op{d.o}, []byte(key)); ok {
			if o.Kind == api.Put {
				return string(o.Value), memo.Found
			}
			return "", memo.Erased
		}
	}
	return "", memo.Unknown
}

// told writes what a memo of these would tell, by other ways than a memo's.
func (m model) told() string {
	var versions, spans []done
	size, last := 0, uint64(0)
	for _, d := range m {
		if d.o.Kind == api.Range {
			spans = append(spans, d)
		} else {
			versions = append(versions, d)
		}
		size += 16 + len(d.o.Key) + len(d.o.Value)
		last = d.seq
	}
	slices.SortFunc(versions, func(a, b done) int {
		return ikey.Compare(api.Key{User: a.o.Key, Seq: a.seq}, api.Key{User: b.o.Key, Seq: b.seq})
	})
	var b strings.Builder
	for _, d := range versions {
		b.WriteString(strconv.Quote(string(d.o.Key)) + " at " + strconv.FormatUint(d.seq, 10))
		b.WriteString(" kind " + strconv.Itoa(int(d.o.Kind)) + " = " + strconv.Quote(string(d.o.Value)) + "; ")
	}
	for _, d := range spans {
		b.WriteString(strconv.Quote(string(d.o.Key)) + " to " + strconv.Quote(string(d.o.Value)))
		b.WriteString(" at " + strconv.FormatUint(d.seq, 10) + "; ")
	}
	b.WriteString("size " + strconv.Itoa(size) + " last " + strconv.FormatUint(last, 10))
	return b.String()
}

// rightBatch tells whether a memo with that Last takes the batch.
func rightBatch(l []api.Op, seq uint64, heights []int, last uint64) bool {
	for i := range l {
		if batch.CheckOp(l[i]) != api.OK || i < len(heights) && (heights[i] < 1 || heights[i] > api.MaxHeight) {
			return false
		}
	}
	return seq > last
}

func TestLongRuns(t *testing.T) {
	state := uint64(1)
	roll := func(n int) int {
		state = state*6364136223846793005 + 1442695040888963407
		return int((state >> 33) % uint64(n))
	}
	key := func() string { return "abcdefgh"[roll(7):][:1] + strings.Repeat("a", roll(2)) }
	anyOp := func() api.Op {
		switch roll(5) {
		case 0:
			return span(key(), key())
		case 1:
			return del(key())
		}
		return put(key(), text(roll(4)))
	}
	for range 60 {
		m, plain := memo.New(), model{}
		for range 40 {
			var l []api.Op
			for range roll(4) {
				l = append(l, anyOp())
			}
			var heights []int
			for range roll(5) {
				heights = append(heights, 1+roll(16*api.MaxHeight+1)%(api.MaxHeight+1))
			}
			last := m.Last()
			seq := last + uint64(roll(4))
			right := rightBatch(l, seq, heights, last)
			if err := m.Batch(l, seq, heights...); (err == api.OK) != right {
				t.Fatalf("Batch(%v, %d, %v) behind %d = %d", l, seq, heights, last, err)
			}
			if right {
				for i, o := range l {
					plain = append(plain, done{o, seq + uint64(i)})
				}
			}
			tells(t, m, plain.told())
			for range 10 {
				k, at := key(), uint64(roll(int(m.Last())+2))
				value, found := plain.get(k, at)
				finds(t, m, k, at, value, found)
			}
		}
	}
}
