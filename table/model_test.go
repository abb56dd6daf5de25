package table_test

import (
	"bytes"
	"math"
	"slices"
	"strings"
	"testing"

	"bartizan/api"
	"bartizan/ikey"
	"bartizan/memo"
	"bartizan/table"
)

// get looks through all entries and spans.
func (c content) get(key string, seq uint64) (string, uint64, int) {
	var newest *api.Entry
	for i, e := range c.l {
		if string(e.Key.User) == key && e.Key.Seq <= seq && (newest == nil || e.Key.Seq > newest.Key.Seq) {
			newest = &c.l[i]
		}
	}
	cover := uint64(0)
	for _, s := range c.spans {
		if string(s.From) <= key && key < string(s.To) && s.Seq <= seq {
			cover = max(cover, s.Seq)
		}
	}
	if newest == nil && cover == 0 {
		return "", 0, memo.Unknown
	}
	if newest == nil || cover > newest.Key.Seq {
		return "", cover, memo.Erased
	}
	if newest.Key.Kind == api.Delete {
		return "", newest.Key.Seq, memo.Erased
	}
	return string(newest.Value), newest.Key.Seq, memo.Found
}

// bounds sorts all keys that there are, and all that are above.
func (c content) bounds() (string, string) {
	var keys, above []string
	for _, e := range c.l {
		keys = append(keys, string(e.Key.User))
		above = append(above, string(e.Key.User)+"\x00")
	}
	for _, s := range c.spans {
		keys = append(keys, string(s.From))
		above = append(above, string(s.To))
	}
	return slices.Min(keys), slices.Max(above)
}

// last sorts all Seqs.
func (c content) last() uint64 {
	var all []uint64
	for _, e := range c.l {
		all = append(all, e.Key.Seq)
	}
	for _, s := range c.spans {
		all = append(all, s.Seq)
	}
	return slices.Max(all)
}

// roller answers numbers below what it is asked for, the same in each run.
func roller() func(int) int {
	state := uint64(1)
	return func(n int) int {
		state = state*6364136223846793005 + 1442695040888963407
		return int((state >> 33) % uint64(n))
	}
}

// rolled makes a right content by chance.
func rolled(roll func(int) int, key func() string) content {
	var c content
	for range roll(40) {
		e := put(key(), uint64(roll(20)), text(roll(4)))
		if roll(4) == 0 {
			e = del(key(), uint64(roll(20)))
		}
		c.l = append(c.l, e)
	}
	slices.SortFunc(c.l, func(a, b api.Entry) int { return ikey.Compare(a.Key, b.Key) })
	c.l = slices.CompactFunc(c.l, func(a, b api.Entry) bool { return ikey.Compare(a.Key, b.Key) == 0 })
	for range roll(6) {
		from, to := key(), key()
		if from < to {
			c.spans = append(c.spans, span(from, to, uint64(1+roll(20))))
		}
	}
	return c
}

func TestLongRuns(t *testing.T) {
	roll := roller()
	key := func() string { return "abcdefgh"[roll(7):][:1] + strings.Repeat("a", roll(3)) }
	for range 400 {
		c := rolled(roll, key)
		if len(c.l)+len(c.spans) == 0 {
			continue
		}
		if string(build(t, c)) != plain(c) {
			t.Fatalf("Build(%v) isn't as the plain one", c)
		}
		x := open(t, c)
		if !slices.EqualFunc(x.Entries(), c.l, alike) || !slices.EqualFunc(x.Spans(), c.spans, same) || x.Last() != c.last() {
			t.Fatalf("%v, %v, %d, want %v", x.Entries(), x.Spans(), x.Last(), c)
		}
		least, above := x.Bounds()
		if wantLeast, wantAbove := c.bounds(); string(least) != wantLeast || string(above) != wantAbove {
			t.Fatalf("Bounds of %v = %q, %q", c, least, above)
		}
		for range 60 {
			k, seq := key(), uint64(roll(22))
			value, by, state := c.get(k, seq)
			finds(t, x, k, seq, value, by, state)
		}
	}
}

// A table finds what a memo finds of which it was made.
func TestAsAMemo(t *testing.T) {
	roll := roller()
	key := func() string { return "abcdefgh"[roll(7):][:1] + strings.Repeat("a", roll(2)) }
	for range 100 {
		m := memo.New()
		for i := range 1 + roll(50) {
			o := api.Op{Kind: byte(1 + roll(3)), Key: []byte(key())}
			if o.Kind != api.Delete {
				o.Value = []byte(key())
			}
			// A Range that is none is refused, and its number left out.
			m.Do(o, uint64(i+1), 1)
		}
		c := content{m.Entries(), m.Spans()}
		if m.Last() == 0 {
			continue
		}
		x := open(t, c)
		if x.Last() != m.Last() {
			t.Fatalf("Last = %d, want %d", x.Last(), m.Last())
		}
		for range 60 {
			k, seq := []byte(key()), uint64(roll(52))
			value, state := m.Get(k, seq)
			if v, _, s := x.Get(k, seq); !bytes.Equal(v, value) || s != state {
				t.Fatalf("Get(%q, %d) = %q, %d, want %q, %d", k, seq, v, s, value, state)
			}
		}
	}
}

// roomy copies p in front of spare room whose bytes are known.
func roomy(p string) []byte {
	q := bytes.Repeat([]byte{0xa5}, len(p)+16)
	copy(q, p)
	return q[:len(p)]
}

// untouched tells whether q, which roomy made of p, is as it was.
func untouched(q []byte, p string) bool {
	return bytes.Equal(q[:len(p)+16], append([]byte(p), bytes.Repeat([]byte{0xa5}, 16)...))
}

// spoil writes over bytes and their spare room.
func spoil(p []byte) {
	p = p[:cap(p)]
	for i := range p {
		p[i] = 0x5a
	}
}

func TestMemoryOfWhatIsHandedIn(t *testing.T) {
	user, value, from, to := roomy("c"), roomy("y"), roomy("b"), roomy("d")
	l := []api.Entry{put("a", 1, "x"), {Key: api.Key{User: user, Seq: 3, Kind: api.Put}, Value: value}, put("behind", 1, "")}
	spans := []api.Span{{From: from, To: to, Seq: 2}, span("behind", "c", 9)}
	p, err := table.Build(l[:2], spans[:1])
	if err != api.OK || string(p) != plain(example()) {
		t.Fatalf("Build = %x, %d", p, err)
	}
	if !untouched(user, "c") || !untouched(value, "y") || !untouched(from, "b") || !untouched(to, "d") {
		t.Errorf("an argument has changed: %q, %q, %q, %q", user, value, from, to)
	}
	if string(l[2].Key.User) != "behind" || string(spans[1].From) != "behind" {
		t.Errorf("an argument has changed: %v, %v", l, spans)
	}
	for _, q := range [][]byte{user, value, from, to} {
		spoil(q)
	}
	if string(p) != plain(example()) {
		t.Errorf("what was built has changed: %x", p)
	}
	bytesOf := roomy(plain(example()))
	x, err := table.Open(bytesOf)
	if err != api.OK {
		t.Fatal(err)
	}
	key := roomy("c")
	x.Get(key, 9)
	x.May(key)
	if !untouched(bytesOf, plain(example())) || !untouched(key, "c") {
		t.Errorf("an argument has changed: %x, %q", bytesOf, key)
	}
	spoil(bytesOf)
	spoil(key)
	isExample(t, x)
}

// isExample fails unless the table is the chapter's.
func isExample(t *testing.T, x *table.Table) {
	t.Helper()
	c := example()
	if l, spans := x.Entries(), x.Spans(); !slices.EqualFunc(l, c.l, alike) || !slices.EqualFunc(spans, c.spans, same) {
		t.Errorf("%v, %v", l, spans)
	}
	if least, above := x.Bounds(); string(least) != "a" || string(above) != "d" {
		t.Errorf("Bounds = %q, %q", least, above)
	}
	if !x.May([]byte("a")) || !x.May([]byte("c")) || x.May([]byte("b")) || x.Leaves() != 1 || x.Last() != 3 {
		t.Errorf("%t, %t, %t, %d, %d", x.May([]byte("a")), x.May([]byte("c")), x.May([]byte("b")), x.Leaves(), x.Last())
	}
	for _, key := range []string{"a", "b", "c", "d"} {
		for _, seq := range []uint64{0, 1, 2, 3, math.MaxUint64} {
			value, by, state := c.get(key, seq)
			finds(t, x, key, seq, value, by, state)
		}
	}
}

func TestMemoryOfAnswers(t *testing.T) {
	p := build(t, example())
	again := build(t, example())
	spoil(p)
	if string(again) != plain(example()) {
		t.Errorf("two answers share memory: %x", again)
	}
	x, y := open(t, example()), open(t, example())
	for range 2 {
		v, _, _ := x.Get([]byte("c"), 9)
		w, _, _ := x.Get([]byte("c"), 9)
		spoil(v)
		if string(w) != "y" {
			t.Errorf("two answers share memory: %q", w)
		}
		l, spans := x.Entries(), x.Spans()
		spoil(l[0].Key.User)
		if string(l[0].Value) != "x" || string(l[1].Key.User) != "c" || string(l[1].Value) != "y" {
			t.Errorf("texts of one answer share memory: %v", l)
		}
		spoil(spans[0].From)
		if string(spans[0].To) != "d" {
			t.Errorf("texts of one answer share memory: %v", spans)
		}
		least, above := x.Bounds()
		spoil(least)
		if string(above) != "d" {
			t.Errorf("two lists of an answer share memory: %q", above)
		}
		spoil(above)
		for _, e := range l {
			spoil(e.Key.User)
			spoil(e.Value)
		}
		spoil(spans[0].To)
		clear(l[:cap(l)])
		clear(spans[:cap(spans)])
		isExample(t, x)
		isExample(t, y)
	}
}

// Both ends of Bounds are apart from each other and from the table, wherever they come from.
func TestMemoryOfBounds(t *testing.T) {
	for _, c := range []content{
		{[]api.Entry{put("b", 1, "")}, nil},
		{nil, []api.Span{span("b", "d", 1)}},
		{[]api.Entry{put("b", 1, "")}, []api.Span{span("a", "a\x00", 1)}},
		{[]api.Entry{put("b", 1, "")}, []api.Span{span("c", "d", 1)}},
	} {
		x := open(t, c)
		for range 2 {
			least, above := x.Bounds()
			wantLeast, wantAbove := c.bounds()
			if string(least) != wantLeast {
				t.Errorf("Bounds = %q", least)
			}
			spoil(least)
			if string(above) != wantAbove {
				t.Errorf("Bounds = %q", above)
			}
			spoil(above)
		}
	}
}
