package tomb_test

import (
	"bytes"
	"math"
	"slices"
	"testing"

	"bartizan/api"
	"bartizan/tomb"
)

// span makes one.
func span(from, to string, seq uint64) api.Span {
	return api.Span{From: []byte(from), To: []byte(to), Seq: seq}
}

// same tells whether two spans have the same fields.
func same(a, b api.Span) bool {
	return bytes.Equal(a.From, b.From) && bytes.Equal(a.To, b.To) && a.Seq == b.Seq
}

// text makes one of so many bytes, each unlike its neighbours.
func text(size int) string {
	p := make([]byte, size)
	for i := range p {
		p[i] = byte(i*7 + 1)
	}
	return string(p)
}

// roomy copies p in front of spare room whose bytes are known.
func roomy(p string) []byte {
	q := bytes.Repeat([]byte{0xa5}, len(p)+16)
	copy(q, p)
	return q[:len(p)]
}

// untouched tells whether q, which roomy made of p, is as it was.
func untouched(q []byte, p string) bool {
	return bytes.Equal(q[:len(p)+16], append([]byte(p), bytes.Repeat([]byte{0xa5}, 16)...))
}

// spoil writes over bytes and their spare room.
func spoil(p []byte) {
	p = p[:cap(p)]
	for i := range p {
		p[i] = 0x5a
	}
}

// spoilAll writes over the spans of an answer.
func spoilAll(l []api.Span) {
	for i := range l {
		spoil(l[i].From)
		spoil(l[i].To)
		l[i].Seq = 99
	}
}

// tells fails unless a list has just these spans, in that order.
func tells(t *testing.T, what string, l []api.Span, want ...api.Span) {
	t.Helper()
	if !slices.EqualFunc(l, want, same) {
		t.Errorf("%s = %v, want %v", what, l, want)
	}
}

// right holds right spans at the edges of the chapter's words.
func right() []api.Span {
	long := text(api.MaxKey)
	return []api.Span{
		span("a", "b", 1),
		span("a", "a\x00", api.MaxSeq),
		span("\x00", "\xff", api.MaxSeq-1),
		span(long, long[:3]+"\xff", 5),
		span("\x00", long, 5),
		span(text(63), long, 5),
		span("A", "a", 7),
		span("\x7f", "\x80", 7),
	}
}

// wrong holds spans that aren't right.
func wrong() []api.Span {
	long := text(api.MaxKey + 1)
	return []api.Span{
		{},
		span("", "b", 1),
		span("a", "", 1),
		span("", "", 1),
		span("a", "a", 1),
		span("b", "a", 1),
		span("ab", "a", 1),
		span("\x80", "\x7f", 1),
		span("a", "b", 0),
		span("a", "b", api.MaxSeq+1),
		span("a", "b", math.MaxUint64),
		span("\x00", long, 1),
		span(long, "\xff", 1),
		span(long, long+"x", 1),
		span(text(300), "\xff", 0),
	}
}

func TestCheck(t *testing.T) {
	for _, s := range right() {
		if err := tomb.Check(s); err != api.OK {
			t.Errorf("Check(%v) = %d", s, err)
		}
	}
	for _, s := range wrong() {
		if err := tomb.Check(s); err != api.ErrForm {
			t.Errorf("Check(%v) = %d", s, err)
		}
	}
}

func TestNewLeavesOutWhatIsWrong(t *testing.T) {
	var mixed []api.Span
	for i, s := range wrong() {
		mixed = append(mixed, s, right()[i%len(right())])
	}
	set := tomb.New(mixed...)
	var want []api.Span
	for i := range wrong() {
		want = append(want, right()[i%len(right())])
	}
	tells(t, "All", set.All(), want...)
	if n := set.Len(); n != len(want) {
		t.Errorf("Len = %d, want %d", n, len(want))
	}
}

func TestAdd(t *testing.T) {
	set := tomb.New(span("m", "n", 3))
	want := []api.Span{span("m", "n", 3)}
	for range 2 {
		for _, s := range right() {
			if err := set.Add(s); err != api.OK {
				t.Errorf("Add(%v) = %d", s, err)
			}
			want = append(want, s)
		}
		for _, s := range wrong() {
			if err := set.Add(s); err != api.ErrForm {
				t.Errorf("Add(%v) = %d", s, err)
			}
		}
	}
	// The same span twice came twice.
	tells(t, "All", set.All(), want...)
	if n := set.Len(); n != len(want) {
		t.Errorf("Len = %d, want %d", n, len(want))
	}
}

func TestOfNothing(t *testing.T) {
	for _, set := range []*tomb.Set{tomb.New(), tomb.New(nil...), tomb.New(span("b", "a", 1))} {
		tells(t, "All", set.All())
		tells(t, "Fragments", set.Fragments())
		if n := set.Len(); n != 0 {
			t.Errorf("Len = %d", n)
		}
		if seq := set.Cover([]byte("a"), api.MaxSeq); seq != 0 {
			t.Errorf("Cover = %d", seq)
		}
		if err := set.Add(span("a", "b", 4)); err != api.OK || set.Cover([]byte("a"), 4) != 4 {
			t.Errorf("Add = %d", err)
		}
	}
}

func TestOfANilSet(t *testing.T) {
	var set *tomb.Set
	for _, s := range []api.Span{{}, span("a", "b", 1)} {
		if err := set.Add(s); err != api.ErrNone {
			t.Errorf("Add(%v) = %d", s, err)
		}
	}
	tells(t, "All", set.All())
	tells(t, "Fragments", set.Fragments())
	if set.Len() != 0 || set.Cover([]byte("a"), 9) != 0 {
		t.Errorf("Len = %d, Cover = %d", set.Len(), set.Cover([]byte("a"), 9))
	}
}

func TestTheExample(t *testing.T) {
	set := tomb.New(span("a", "c", 5), span("b", "d", 7))
	for _, c := range []struct {
		key  string
		seq  uint64
		want uint64
	}{
		{"b", 9, 7}, {"b", 6, 5}, {"c", 6, 0},
	} {
		if seq := set.Cover([]byte(c.key), c.seq); seq != c.want {
			t.Errorf("Cover(%q, %d) = %d, want %d", c.key, c.seq, seq, c.want)
		}
	}
	tells(t, "Fragments", set.Fragments(), span("a", "b", 5), span("b", "c", 7), span("b", "c", 5), span("c", "d", 7))
}

func TestCover(t *testing.T) {
	set := tomb.New(span("b", "d", 5), span("c", "e", 9), span("b", "d", 7), span("b", "c", 7), span("x", "y", api.MaxSeq))
	for _, c := range []struct {
		key  string
		seq  uint64
		want uint64
	}{
		{"", 99, 0}, {"a", 99, 0}, {"a\xff\xff", 99, 0},
		{"b", 0, 0}, {"b", 4, 0}, {"b", 5, 5}, {"b", 6, 5}, {"b", 7, 7}, {"b", 8, 7}, {"b", math.MaxUint64, 7},
		{"b\x00", 99, 7}, {"bzz", 99, 7}, {"c", 8, 7}, {"c", 9, 9}, {"c", 10, 9},
		{"c\xff", 6, 5}, {"d", 8, 0}, {"d", 9, 9}, {"d\xff", 99, 9}, {"e", 99, 0}, {"e", math.MaxUint64, 0},
		{"w", math.MaxUint64, 0}, {"x", api.MaxSeq - 1, 0}, {"x", api.MaxSeq, api.MaxSeq}, {"x", math.MaxUint64, api.MaxSeq},
		{"x" + text(500), math.MaxUint64, api.MaxSeq}, {"y", math.MaxUint64, 0},
	} {
		if seq := set.Cover([]byte(c.key), c.seq); seq != c.want {
			t.Errorf("Cover(%q, %d) = %d, want %d", c.key, c.seq, seq, c.want)
		}
	}
	if seq := set.Cover(nil, 99); seq != 0 {
		t.Errorf("Cover(nil) = %d", seq)
	}
}

func TestFragments(t *testing.T) {
	for _, c := range []struct {
		what     string
		of, want []api.Span
	}{
		{"one", []api.Span{span("a", "c", 5)}, []api.Span{span("a", "c", 5)}},
		{"the same twice", []api.Span{span("a", "c", 5), span("a", "c", 5)}, []api.Span{span("a", "c", 5)}},
		{"one Seq, one in the other", []api.Span{span("a", "d", 5), span("b", "c", 5)},
			[]api.Span{span("a", "b", 5), span("b", "c", 5), span("c", "d", 5)}},
		{"one Seq, side by side", []api.Span{span("b", "c", 5), span("a", "b", 5)},
			[]api.Span{span("a", "b", 5), span("b", "c", 5)}},
		{"with a hole between", []api.Span{span("x", "z", 2), span("a", "b", 9)},
			[]api.Span{span("a", "b", 9), span("x", "z", 2)}},
		{"one in the other", []api.Span{span("b", "c", 3), span("a", "d", 8)},
			[]api.Span{span("a", "b", 8), span("b", "c", 8), span("b", "c", 3), span("c", "d", 8)}},
		{"three of one beginning", []api.Span{span("a", "b", 2), span("a", "d", 1), span("a", "c", 3)},
			[]api.Span{span("a", "b", 3), span("a", "b", 2), span("a", "b", 1), span("b", "c", 3), span("b", "c", 1), span("c", "d", 1)}},
		{"three of one end", []api.Span{span("a", "d", 2), span("c", "d", 1), span("b", "d", 3)},
			[]api.Span{span("a", "b", 2), span("b", "c", 3), span("b", "c", 2), span("c", "d", 3), span("c", "d", 2), span("c", "d", 1)}},
		{"great and small Seqs", []api.Span{span("a", "b", 1), span("a", "b", api.MaxSeq), span("a", "b", 256)},
			[]api.Span{span("a", "b", api.MaxSeq), span("a", "b", 256), span("a", "b", 1)}},
		{"beginnings", []api.Span{span("a", "aa", 1), span("a\x00", "b", 2)},
			[]api.Span{span("a", "a\x00", 1), span("a\x00", "aa", 2), span("a\x00", "aa", 1), span("aa", "b", 2)}},
	} {
		set := tomb.New(c.of...)
		tells(t, c.what, set.Fragments(), c.want...)
		// To tell them changes nothing.
		tells(t, c.what, set.Fragments(), c.want...)
		tells(t, c.what, set.All(), c.of...)
	}
}

func TestClip(t *testing.T) {
	l := []api.Span{span("m", "p", 3), span("a", "c", 5), span("b", "z", 7), span("a", "c", 5)}
	for _, c := range []struct {
		from, to string
		want     []api.Span
	}{
		{"", "", l},
		{"a", "", l},
		{"a", "z", l},
		{"", "z", l},
		{"", "\xff", l},
		{"b", "", []api.Span{span("m", "p", 3), span("b", "c", 5), span("b", "z", 7), span("b", "c", 5)}},
		{"bb", "", []api.Span{span("m", "p", 3), span("bb", "c", 5), span("bb", "z", 7), span("bb", "c", 5)}},
		{"", "b", []api.Span{span("a", "b", 5), span("a", "b", 5)}},
		{"", "b\x00", []api.Span{span("a", "b\x00", 5), span("b", "b\x00", 7), span("a", "b\x00", 5)}},
		{"b", "n", []api.Span{span("m", "n", 3), span("b", "c", 5), span("b", "n", 7), span("b", "c", 5)}},
		{"c", "m", []api.Span{span("c", "m", 7)}},
		{"n", "o", []api.Span{span("n", "o", 3), span("n", "o", 7)}},
		{"p", "", []api.Span{span("p", "z", 7)}},
		{"z", "", nil},
		{"\xff", "", nil},
		{"", "a", nil},
		{"", "\x00", nil},
		{"n", "n", nil},
		{"n", "m", nil},
		{"z", "a", nil},
	} {
		tells(t, "Clip", tomb.Clip(l, []byte(c.from), []byte(c.to)), c.want...)
	}
	tells(t, "Clip of none", tomb.Clip(nil, nil, nil))
	tells(t, "Clip of none", tomb.Clip([]api.Span{}, []byte("a"), []byte("b")))
	tells(t, "Clip within nil", tomb.Clip(l, nil, nil), l...)
}

// Spans that no set would take, and bounds of any length.
func TestClipOfAny(t *testing.T) {
	long := text(200)
	l := []api.Span{
		{}, span("", "b", 0), span("a", "", 3), span("b", "a", 3), span("a", "a", 3), span("\x00", long, math.MaxUint64), span(long, "\xff", 2),
	}
	tells(t, "Clip", tomb.Clip(l, nil, nil), span("", "b", 0), span("\x00", long, math.MaxUint64), span(long, "\xff", 2))
	// long begins with 01 08: the first span goes up to b, past it; the last but one ends there.
	tells(t, "Clip", tomb.Clip(l, []byte(long), []byte(long+"x")), span(long, long+"x", 0), span(long, long+"x", 2))
}

func TestMemoryOfWhatIsHandedIn(t *testing.T) {
	from, to, key := roomy("ab"), roomy("cd"), roomy("b")
	s := api.Span{From: from, To: to, Seq: 4}
	room := []api.Span{s, span("x", "y", 1)}
	set := tomb.New(room[:1]...)
	set.Add(s)
	tomb.Check(s)
	set.Cover(key, 9)
	if !untouched(from, "ab") || !untouched(to, "cd") || !untouched(key, "b") || !same(room[1], span("x", "y", 1)) {
		t.Errorf("an argument has changed: % x, % x, % x, %v", from, to, key, room)
	}
	spoil(from)
	spoil(to)
	room[0].Seq = 9
	tells(t, "All", set.All(), span("ab", "cd", 4), span("ab", "cd", 4))
}

func TestMemoryOfAnswers(t *testing.T) {
	l := []api.Span{span("a", "c", 5), span("b", "d", 7)}
	set := tomb.New(l...)
	parts := []api.Span{span("a", "b", 5), span("b", "c", 7), span("b", "c", 5), span("c", "d", 7)}
	for range 2 {
		all, cut := set.All(), set.Fragments()
		tells(t, "All", all, l...)
		tells(t, "Fragments", cut, parts...)
		spoilAll(all)
		tells(t, "Fragments", cut, parts...)
		spoilAll(cut)
	}
}

func TestClipMemory(t *testing.T) {
	first, second := roomy("a"), roomy("f")
	from, to := roomy("b"), roomy("e")
	l := []api.Span{{From: first, To: second, Seq: 3}, {From: roomy("c"), To: roomy("d"), Seq: 4}}
	clipped := tomb.Clip(l, from, to)
	again := tomb.Clip(l, from, to)
	spoilAll(clipped)
	if !untouched(first, "a") || !untouched(second, "f") || !untouched(from, "b") || !untouched(to, "e") {
		t.Errorf("an answer shares memory: % x, % x, % x, % x", first, second, from, to)
	}
	if l[0].Seq != 3 || !untouched(l[1].From, "c") || !untouched(l[1].To, "d") {
		t.Errorf("an answer shares memory: %v", l)
	}
	for _, p := range [][]byte{from, to, l[1].From, l[1].To} {
		spoil(p)
	}
	tells(t, "Clip", again, span("b", "e", 3), span("c", "d", 4))
}

// Each text of an answer stands apart from every other one.
func TestTextsOfOneAnswerAreApart(t *testing.T) {
	set := tomb.New(span("a", "c", 5), span("b", "d", 7))
	clip := func() []api.Span {
		return tomb.Clip([]api.Span{span("a", "z", 1), span("a", "z", 2)}, []byte("b"), []byte("y"))
	}
	for _, answer := range []func() []api.Span{set.All, set.Fragments, clip} {
		want := answer()
		for i := range want {
			for _, side := range []func(api.Span) []byte{
				func(s api.Span) []byte { return s.From },
				func(s api.Span) []byte { return s.To },
			} {
				l := answer()
				spoil(side(l[i]))
				copy(side(l[i]), side(want[i]))
				tells(t, "the others", l, want...)
			}
		}
	}
}

// Long runs against the plainest reckoning: key by key, for all keys of one byte and two.
func TestLongRuns(t *testing.T) {
	state := uint64(1)
	roll := func(n int) int {
		state = state*6364136223846793005 + 1442695040888963407
		return int((state >> 33) % uint64(n))
	}
	letter := func(n int) string { return string(rune('a' + n)) }
	for range 300 {
		set := tomb.New()
		var l []api.Span
		for range roll(8) {
			s := span(letter(roll(8)), letter(roll(9)), uint64(roll(6)))
			if set.Add(s) == api.OK {
				l = append(l, s)
			}
		}
		tells(t, "All", set.All(), l...)
		var want []api.Span
		places := map[string]int{}
		for _, s := range l {
			places[string(s.From)]++
			places[string(s.To)]++
		}
		for i := range 8 {
			if places[letter(i)] == 0 {
				continue
			}
			end := i + 1
			for end < 9 && places[letter(end)] == 0 {
				end++
			}
			for seq := uint64(6); seq > 0; seq-- {
				if slices.ContainsFunc(l, func(s api.Span) bool {
					return s.Seq == seq && string(s.From) <= letter(i) && letter(i) < string(s.To)
				}) {
					want = append(want, span(letter(i), letter(end), seq))
				}
			}
		}
		tells(t, "Fragments", set.Fragments(), want...)
		cut := tomb.New(set.Fragments()...)
		for i := range 9 {
			for seq := range uint64(8) {
				most := uint64(0)
				for _, s := range l {
					if s.Seq <= seq && string(s.From) <= letter(i) && letter(i) < string(s.To) {
						most = max(most, s.Seq)
					}
				}
				if got := set.Cover([]byte(letter(i)), seq); got != most {
					t.Fatalf("Cover(%s, %d) = %d, want %d of %v", letter(i), seq, got, most, l)
				}
				if got := cut.Cover([]byte(letter(i)), seq); got != most {
					t.Fatalf("fragments: Cover(%s, %d) = %d, want %d of %v", letter(i), seq, got, most, l)
				}
			}
		}
	}
}
