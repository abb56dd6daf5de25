package engine_test

import (
	"fmt"
	"math"
	"slices"
	"strings"
	"testing"

	"bartizan/api"
	"bartizan/disk"
	"bartizan/engine"
)

// laid tells what the tables of a level have: entries, then spans, table by table.
func laid(t *testing.T, d *disk.Disk, level int) string {
	t.Helper()
	var all []string
	for _, l := range files(t, d).Level(level) {
		x := tableOf(t, d, l.Number)
		var one []string
		for _, e := range x.Entries() {
			one = append(one, fmt.Sprintf("%s@%d:%d", e.Key.User, e.Key.Seq, e.Key.Kind))
		}
		for _, s := range x.Spans() {
			one = append(one, fmt.Sprintf("%s-%s@%d", s.From, s.To, s.Seq))
		}
		all = append(all, strings.Join(one, " "))
	}
	return strings.Join(all, "; ")
}

// lies fails unless the tables of the level have that.
func lies(t *testing.T, d *disk.Disk, level int, want string) {
	t.Helper()
	if got := laid(t, d, level); got != want {
		t.Errorf("level %d has %s, want %s", level, got, want)
	}
}

// sizes tells how many entries each table of the level has.
func sizes(t *testing.T, d *disk.Disk, level int) []int {
	t.Helper()
	var all []int
	for _, l := range files(t, d).Level(level) {
		all = append(all, len(tableOf(t, d, l.Number).Entries()))
	}
	return all
}

// flushed writes and flushes, batch by batch.
func flushed(t *testing.T, e *engine.Engine, l ...[]api.Op) {
	t.Helper()
	for _, one := range l {
		for part := range slices.Chunk(one, api.MaxOps) {
			fine(t, e.Write(part))
		}
		fine(t, e.Flush())
	}
}

func TestFlush(t *testing.T) {
	e, d := store(t, 0)
	is(t, "Flush of nothing", e.Flush(), api.ErrState)
	fine(t, e.Prepare([]byte("p"), ops(put("p", "x"))))
	is(t, "Flush of what is held alone", e.Flush(), api.ErrState)
	fine(t, e.Write(ops(put("b", "x"), span("a", "c"), del("d"))))
	if e.Fresh() {
		t.Error("Fresh with a memo")
	}
	fine(t, e.Flush())
	is(t, "Flush once more", e.Flush(), api.ErrState)
	if !e.Fresh() || e.Tables(0) != 1 || held(e) != "p(2:p:x)" {
		t.Errorf("%s", told(e))
	}
	lies(t, d, 0, "b@1:2 d@3:1 a-c@2")
	tidy(t, d, e)
	fine(t, e.Commit([]byte("p")), e.Flush())
	lies(t, d, 0, "p@4:2; b@1:2 d@3:1 a-c@2")
	tidy(t, d, e)
}

// All that was written goes into the table, what nobody sees any more, too.
func TestFlushOfAll(t *testing.T) {
	e, d := store(t, 0)
	flushed(t, e, many(500, "a"))
	if got := sizes(t, d, 0); !slices.Equal(got, []int{500}) {
		t.Errorf("level 0 has tables of %v", got)
	}
	flushed(t, e, slices.Repeat(ops(span("a", "b")), 500))
	if got := sizes(t, d, 0); !slices.Equal(got, []int{0, 500}) {
		t.Errorf("level 0 has tables of %v", got)
	}
}

func TestCompactRefuses(t *testing.T) {
	e, _ := store(t, 0)
	for _, level := range []int{-1, math.MinInt, api.Levels - 1, api.Levels, math.MaxInt} {
		is(t, fmt.Sprintf("Compact(%d)", level), e.Compact(level), api.ErrArg)
	}
	is(t, "Compact(0)", e.Compact(0), api.ErrState)
	is(t, "Compact(1)", e.Compact(1), api.ErrState)
	fine(t, e.Write(ops(put("a", "x"))))
	is(t, "Compact(0) of a memo", e.Compact(0), api.ErrState)
	fine(t, e.Flush())
	is(t, "Compact(1) above", e.Compact(1), api.ErrState)
	fine(t, e.Compact(0))
	is(t, "Compact(0) below", e.Compact(0), api.ErrState)
	fine(t, e.Compact(1))
	is(t, "Compact(1) below", e.Compact(1), api.ErrState)
	is(t, "Compact(2)", e.Compact(2), api.ErrArg)
	for _, level := range []int{-1, math.MinInt, 0, 1, 3, math.MaxInt} {
		if e.Tables(level) != 0 {
			t.Errorf("Tables(%d) = %d", level, e.Tables(level))
		}
	}
	if e.Tables(2) != 1 || all(e, api.MaxSeq) != "a=x" {
		t.Errorf("%s", told(e))
	}
}

// What was written, flushed, deleted and put together is gone, with its tables.
func TestCompactOfWhatIsGone(t *testing.T) {
	for _, gone := range [][]api.Op{ops(del("a"), del("b")), ops(span("a", "c"))} {
		e, d := store(t, 0)
		flushed(t, e, ops(put("a", "x"), put("b", "y")), gone)
		fine(t, e.Compact(0))
		for range 2 {
			if e.Tables(0)+e.Tables(1)+e.Tables(2) != 0 || all(e, api.MaxSeq) != "" || e.Last() != 2+uint64(len(gone)) {
				t.Errorf("%s", told(e))
			}
			tidy(t, d, e)
			fine(t, d.Crash(nil, 0))
			e = open(t, d)
		}
	}
}

// Deletes and spans stay as long as a level below has keys within their bounds.
func TestCompactAboveOthers(t *testing.T) {
	e, d := store(t, 0)
	flushed(t, e, ops(put("b", "x"), put("c", "y"), put("x", "z")))
	fine(t, e.Compact(0), e.Compact(1))
	lies(t, d, 2, "b@1:2 c@2:2 x@3:2")
	flushed(t, e, ops(del("b"), span("c", "d"), put("c", "w"), put("c", "v")))
	fine(t, e.Compact(0))
	lies(t, d, 1, "b@4:1 c@7:2 c-d@5")
	if all(e, api.MaxSeq) != "c=v x=z" {
		t.Errorf("%s", told(e))
	}
	fine(t, e.Compact(1))
	lies(t, d, 2, "c@7:2 x@3:2")
	lies(t, d, 1, "")
	if all(e, api.MaxSeq) != "c=v x=z" {
		t.Errorf("%s", told(e))
	}
}

// Spans alone are a table, too.
func TestCompactOfSpansAlone(t *testing.T) {
	e, d := store(t, 0)
	flushed(t, e, ops(put("b", "x"), put("d", "y")))
	fine(t, e.Compact(0), e.Compact(1))
	flushed(t, e, ops(span("a", "c")), ops(span("b", "e")))
	fine(t, e.Compact(0))
	lies(t, d, 1, "a-c@3 b-e@4")
	if all(e, api.MaxSeq) != "" {
		t.Errorf("%s", told(e))
	}
	fine(t, e.Compact(1))
	if e.Tables(1)+e.Tables(2) != 0 || all(e, api.MaxSeq) != "" {
		t.Errorf("%s", told(e))
	}
	tidy(t, d, e)
}

// Where nothing lies below within the bounds, though elsewhere, deletes go.
func TestCompactBesideOthers(t *testing.T) {
	e, d := store(t, 0)
	flushed(t, e, ops(put("x", "z")))
	fine(t, e.Compact(0), e.Compact(1))
	flushed(t, e, ops(put("a", "x")), ops(del("a"), put("b", "y"), span("c", "d")))
	fine(t, e.Compact(0))
	lies(t, d, 1, "b@4:2")
	lies(t, d, 2, "x@1:2")
}

// What is below a table of the next level that is only just reached counts, too.
func TestCompactBelowWhatIsReached(t *testing.T) {
	e, d := store(t, 0)
	flushed(t, e, ops(put("m", "0")))
	fine(t, e.Compact(0), e.Compact(1))
	flushed(t, e, ops(put("a", "1"), del("m")))
	fine(t, e.Compact(0))
	lies(t, d, 1, "a@2:2 m@3:1")
	// m lies beyond the bounds of what goes down, but within those of what it meets.
	flushed(t, e, ops(put("b", "2")))
	fine(t, e.Compact(0))
	lies(t, d, 1, "a@2:2 b@4:2 m@3:1")
	if all(e, api.MaxSeq) != "a=1 b=2" {
		t.Errorf("%s", told(e))
	}
}

func TestCompactSplits(t *testing.T) {
	for count, want := range map[int][]int{1: {1}, 15: {15}, 16: {16}, 17: {16, 1}, 32: {16, 16}, 40: {16, 16, 8}} {
		e, d := store(t, 0)
		flushed(t, e, numbered(0, count))
		fine(t, e.Compact(0))
		if got := sizes(t, d, 1); !slices.Equal(got, want) {
			t.Errorf("%d become %v, want %v", count, got, want)
		}
		tidy(t, d, e)
	}
}

// One key's versions lie in one table, however many have to be kept.
func TestCompactKeepsKeysTogether(t *testing.T) {
	cases := []struct {
		versions []int
		want     []int
	}{
		{[]int{10, 6}, []int{16}},
		{[]int{10, 7}, []int{10, 7}},
		{[]int{10, 7, 9, 1}, []int{10, 16, 1}},
		{[]int{17}, []int{17}},
		{[]int{1, 17, 1}, []int{1, 17, 1}},
		{[]int{40, 1, 1}, []int{40, 2}},
	}
	for _, c := range cases {
		e, d := store(t, 0)
		want := map[uint64]string{}
		for i, count := range c.versions {
			for j := range count {
				fine(t, e.Write(ops(put(fmt.Sprint("key", i), fmt.Sprint(j)))))
				want[e.Pin()] = all(e, api.MaxSeq)
			}
		}
		fine(t, e.Flush(), e.Compact(0))
		if got := sizes(t, d, 1); !slices.Equal(got, c.want) {
			t.Errorf("%v become %v, want %v", c.versions, got, c.want)
		}
		fine(t, e.Compact(1))
		for seq, text := range want {
			if got := all(e, seq); got != text {
				t.Errorf("as of %d: %s, want %s", seq, got, text)
			}
		}
		tidy(t, d, e)
	}
}

// A span that reaches over several tables is cut where they begin, and whole
// again when they are put together.
func TestCompactCutsSpans(t *testing.T) {
	e, d := store(t, 0)
	flushed(t, e, numbered(0, 40))
	fine(t, e.Compact(0), e.Compact(1), e.Compact(1), e.Compact(1))
	before := all(e, api.MaxSeq)
	at := e.Pin()
	flushed(t, e, append(numbered(0, 20), span("k005", "k030")), numbered(20, 20))
	now := all(e, api.MaxSeq)
	fine(t, e.Compact(0))
	spans := func(level int) []string {
		var l []string
		for _, line := range files(t, d).Level(level) {
			for _, s := range tableOf(t, d, line.Number).Spans() {
				l = append(l, fmt.Sprintf("%s-%s", s.From, s.To))
			}
		}
		return l
	}
	// Of the new ones k000 to k004 and k020 to k039 are left, of which the first 16
	// end ahead of k031; and down to there the span reaches.
	if got := spans(1); !slices.Equal(got, []string{"k005-k030"}) {
		t.Errorf("level 1 has the spans %v", got)
	}
	if got := sizes(t, d, 1); !slices.Equal(got, []int{16, 9}) {
		t.Errorf("level 1 has tables of %v", got)
	}
	for range 3 {
		flushed(t, e, numbered(0, 5))
		fine(t, e.Compact(0))
		if got := spans(1); !slices.Equal(got, []string{"k005-k030"}) {
			t.Errorf("level 1 has the spans %v", got)
		}
	}
	tidy(t, d, e)
	for range 4 {
		if all(e, at) != before || all(e, api.MaxSeq) != now {
			t.Fatalf("%s and %s, want %s and %s", all(e, at), all(e, api.MaxSeq), before, now)
		}
		if e.Tables(1) > 0 {
			fine(t, e.Compact(1))
		}
	}
	if e.Tables(1) != 0 {
		t.Errorf("%s", told(e))
	}
	// As of the pinned number the old ones are seen: so the span has to stay, in each table's part.
	if got := spans(2); len(got) < 2 || !strings.HasPrefix(got[0], "k005-") || !strings.HasSuffix(got[len(got)-1], "-k030") {
		t.Errorf("level 2 has the spans %v", got)
	}
	fine(t, e.Unpin(at))
	flushed(t, e, ops(put("k", ""), put("l", "")))
	for fine(t, e.Compact(0)); e.Tables(1) > 0; {
		fine(t, e.Compact(1))
	}
	if got := spans(2); len(got) > 0 {
		t.Errorf("level 2 has the spans %v", got)
	}
	if all(e, api.MaxSeq) != "k= "+now+" l=" {
		t.Errorf("%s", all(e, api.MaxSeq))
	}
}

// Of level 1 the table of the least Number goes, and only those go with it that it meets.
func TestCompactOfLevelOne(t *testing.T) {
	e, d := store(t, 0)
	flushed(t, e, ops(put("c", "1"), put("d", "1")))
	fine(t, e.Compact(0))
	flushed(t, e, ops(put("a", "1"), put("b", "1")))
	fine(t, e.Compact(0))
	flushed(t, e, ops(put("e", "1")))
	fine(t, e.Compact(0))
	lies(t, d, 1, "a@3:2 b@4:2; c@1:2 d@2:2; e@5:2")
	numbers := map[string]uint64{}
	for _, l := range files(t, d).Level(1) {
		numbers[string(l.From)] = l.Number
	}
	fine(t, e.Compact(1))
	lies(t, d, 1, "a@3:2 b@4:2; e@5:2")
	lies(t, d, 2, "c@1:2 d@2:2")
	for _, l := range files(t, d).Level(1) {
		if numbers[string(l.From)] != l.Number {
			t.Errorf("%s has become table %d", l.From, l.Number)
		}
	}
	fine(t, e.Compact(1))
	lies(t, d, 1, "e@5:2")
	lies(t, d, 2, "a@3:2 b@4:2; c@1:2 d@2:2")
	flushed(t, e, ops(put("b", "2"), put("c", "2")))
	fine(t, e.Compact(0))
	lies(t, d, 1, "b@6:2 c@7:2; e@5:2")
	fine(t, e.Compact(1))
	lies(t, d, 1, "b@6:2 c@7:2")
	lies(t, d, 2, "a@3:2 b@4:2; c@1:2 d@2:2; e@5:2")
	last := files(t, d).Level(2)[2].Number
	fine(t, e.Compact(1))
	lies(t, d, 2, "a@3:2 b@6:2 c@7:2 d@2:2; e@5:2")
	if files(t, d).Level(2)[1].Number != last {
		t.Error("a table that wasn't met has gone")
	}
}

// The bounds that count reach from the least From to the greatest To: what lies between goes, too.
func TestCompactTakesWhatLiesBetween(t *testing.T) {
	e, d := store(t, 0)
	flushed(t, e, ops(put("m", "1")))
	fine(t, e.Compact(0))
	flushed(t, e, ops(put("a", "1")))
	fine(t, e.Compact(0))
	flushed(t, e, ops(put("z", "1")))
	fine(t, e.Compact(0))
	lies(t, d, 1, "a@2:2; m@1:2; z@3:2")
	flushed(t, e, ops(put("b", "1")), ops(put("y", "1")))
	fine(t, e.Compact(0))
	lies(t, d, 1, "a@2:2; b@4:2 m@1:2 y@5:2; z@3:2")
}

// Bounds are half open: who ends where another begins doesn't meet it.
func TestCompactLeavesNeighbours(t *testing.T) {
	e, d := store(t, 0)
	flushed(t, e, ops(put("c", "1")))
	fine(t, e.Compact(0), e.Compact(1))
	// Nothing lies below what ends at c: so neither the delete nor the span has to stay.
	flushed(t, e, ops(put("b", "1"), del("a"), span("a", "c")))
	fine(t, e.Compact(0))
	lies(t, d, 1, "")
	lies(t, d, 2, "c@1:2")
	flushed(t, e, ops(put("b", "1"), span("b", "c"), put("b", "2")))
	fine(t, e.Compact(0), e.Compact(1))
	lies(t, d, 2, "b@7:2; c@1:2")
}

func TestTooManyTables(t *testing.T) {
	e, d := store(t, 0)
	flushed(t, e, numbered(0, 500), numbered(500, 500), numbered(1000-1, 500), ops(put("k", "")))
	// 1500 entries would be 94 tables.
	fine(t, e.Compact(0))
	if e.Tables(1) != 94 {
		t.Fatalf("%d tables", e.Tables(1))
	}
	more := numbered(0, 68)
	for i := range more {
		more[i].Key[0] = 'l'
	}
	flushed(t, e, more)
	fine(t, e.Compact(0))
	if e.Tables(1) != 99 {
		t.Fatalf("%d tables", e.Tables(1))
	}
	flushed(t, e, ops(put("m", "")))
	fine(t, e.Write(ops(put("n", ""))))
	before, files := told(e), image(t, d)
	is(t, "Flush", e.Flush(), api.ErrStall)
	if told(e) != before || image(t, d) != files {
		t.Errorf("a refused Flush has changed something")
	}
	fine(t, e.Compact(0), e.Compact(1))
	is(t, "Flush", e.Flush(), api.ErrStall)
	// One that deletes much gives room.
	e = open(t, d)
	tidy(t, d, e)
	if told(e)[:20] != before[:20] || e.Tables(0)+e.Tables(1)+e.Tables(2) != api.Lines {
		t.Errorf("%s", told(e))
	}
}

func TestTooManyTablesWouldCome(t *testing.T) {
	e, d := store(t, 0)
	flushed(t, e, numbered(0, 500), numbered(500, 500), numbered(1000, 500), numbered(1500, 101))
	before, files := told(e), image(t, d)
	is(t, "Compact(0) of 1601 keys", e.Compact(0), api.ErrStall)
	if told(e) != before || image(t, d) != files {
		t.Errorf("a refused Compact has changed something")
	}
	tidy(t, d, e)
	e, d = store(t, 0)
	flushed(t, e, numbered(0, 500), numbered(500, 500), numbered(1000-1, 500), numbered(1500-1, 101))
	fine(t, e.Compact(0))
	if e.Tables(1) != 100 {
		t.Errorf("%d tables", e.Tables(1))
	}
	tidy(t, d, e)
}

func TestTooManyEntriesOfOneKey(t *testing.T) {
	e, d := store(t, 0)
	var first uint64
	for i := range 1001 {
		fine(t, e.Write(ops(put("a", fmt.Sprint(i)))))
		if at := e.Pin(); i == 0 {
			first = at
		}
		if i%400 == 399 {
			fine(t, e.Flush())
		}
	}
	fine(t, e.Flush())
	before, files := told(e), image(t, d)
	is(t, "Compact(0) of 1001 versions", e.Compact(0), api.ErrStall)
	if told(e) != before || image(t, d) != files || all(e, first) != "a=0" {
		t.Errorf("a refused Compact has changed something")
	}
	fine(t, e.Unpin(first), e.Compact(0))
	if got := sizes(t, d, 1); !slices.Equal(got, []int{1000}) || all(e, 2) != "a=1" || all(e, 1001) != "a=1000" {
		t.Errorf("level 1 has tables of %v", got)
	}
	tidy(t, d, e)
}

func TestTooManySpans(t *testing.T) {
	e, d := store(t, 0)
	flushed(t, e, ops(put("b", "")))
	fine(t, e.Compact(0), e.Compact(1))
	flushed(t, e, slices.Repeat(ops(span("a", "c")), 500), slices.Repeat(ops(span("a", "c")), 500), ops(span("b", "c")))
	before, files := told(e), image(t, d)
	is(t, "Compact(0) of 1001 spans", e.Compact(0), api.ErrStall)
	if told(e) != before || image(t, d) != files {
		t.Errorf("a refused Compact has changed something")
	}
	e, d = store(t, 0)
	flushed(t, e, ops(put("b", "")))
	fine(t, e.Compact(0), e.Compact(1))
	flushed(t, e, slices.Repeat(ops(span("a", "c")), 500), slices.Repeat(ops(span("a", "c")), 500))
	fine(t, e.Compact(0))
	tidy(t, d, e)
	fine(t, e.Compact(1))
	if e.Tables(2) != 0 {
		t.Errorf("%s", told(e))
	}
}

// The longest keys have bounds that are a byte longer.
func TestLongestKeys(t *testing.T) {
	e, d := store(t, 0)
	a, b := strings.Repeat("a", 64), strings.Repeat("\xff", 64)
	value := strings.Repeat("v", 512)
	fine(t, e.Write(ops(put(a, value), put(b, value), span(a, b))), e.Flush(), e.Compact(0), e.Compact(1), e.Write(ops(put(a, "x"))), e.Flush(), e.Compact(0))
	for range 2 {
		if all(e, api.MaxSeq) != a+"=x "+b+"="+value {
			t.Errorf("%s", told(e))
		}
		tidy(t, d, e)
		e = open(t, d)
	}
}
