package glass_test

import (
	"math"
	"slices"
	"strings"
	"testing"

	"bartizan/api"
	"bartizan/glass"
	"bartizan/ikey"
	"bartizan/memo"
)

// keeps fails unless those are kept.
func keeps(t *testing.T, l []api.Entry, spans []api.Span, bottom bool, entries, ranges string, seqs ...uint64) {
	t.Helper()
	k, s := glass.Keep(l, spans, bottom, seqs...)
	if toldEntries(k) != entries || toldSpans(s) != ranges {
		t.Errorf("Keep(%s, %s, %t, %v) = %s, %s, want %s, %s", toldEntries(l), toldSpans(spans), bottom, seqs, toldEntries(k), toldSpans(s), entries, ranges)
	}
}

func TestKeepOfTheExample(t *testing.T) {
	l, spans := example()
	keeps(t, l, spans, true, "a3=y", "")
	keeps(t, l, spans, false, "a3=y", "a-c@2")
	keeps(t, l, spans, true, "a3=y a1=x", "a-c@2", 1)
	keeps(t, l, spans, false, "a3=y a1=x", "a-c@2", 1)
	keeps(t, l, spans, true, "a3=y", "", 2)
	keeps(t, l, spans, true, "a3=y", "", 3)
}

func TestKeepOfNothing(t *testing.T) {
	for _, bottom := range []bool{false, true} {
		keeps(t, nil, nil, bottom, "", "")
		keeps(t, list(), ranges(), bottom, "", "", 1, 2)
		keeps(t, list(put("a", 1, "x")), nil, bottom, "a1=x", "")
	}
	keeps(t, nil, ranges(span("a", "b", 1)), false, "", "a-b@1")
	keeps(t, nil, ranges(span("a", "b", 1)), true, "", "")
}

func TestTheNewestVersionAsOfANumberStays(t *testing.T) {
	l := list(put("a", 9, "5"), put("a", 7, "4"), put("a", 5, "3"), put("a", 3, "2"), put("b", 8, "1"))
	for _, bottom := range []bool{false, true} {
		keeps(t, l, nil, bottom, "a9=5 b8=1", "")
		keeps(t, l, nil, bottom, "a9=5 b8=1", "", 0)
		keeps(t, l, nil, bottom, "a9=5 b8=1", "", 2)
		keeps(t, l, nil, bottom, "a9=5 a3=2 b8=1", "", 3)
		keeps(t, l, nil, bottom, "a9=5 a3=2 b8=1", "", 4)
		keeps(t, l, nil, bottom, "a9=5 a5=3 b8=1", "", 5)
		keeps(t, l, nil, bottom, "a9=5 a7=4 b8=1", "", 8)
		keeps(t, l, nil, bottom, "a9=5 b8=1", "", 9)
		keeps(t, l, nil, bottom, "a9=5 a7=4 a3=2 b8=1", "", 8, 3)
		keeps(t, l, nil, bottom, "a9=5 a7=4 a3=2 b8=1", "", 3, 7, 4, 7, 3)
		keeps(t, l, nil, bottom, "a9=5 a7=4 a5=3 a3=2 b8=1", "", 8, 6, 4, 2)
		keeps(t, l, nil, bottom, "a9=5 b8=1", "", api.MaxSeq, math.MaxUint64)
	}
}

func TestNumbersAtTheEndOfKeep(t *testing.T) {
	l := list(put("a", api.MaxSeq, "y"), put("a", 0, "x"))
	keeps(t, l, nil, true, "a72057594037927935=y", "")
	keeps(t, l, nil, true, "a72057594037927935=y a0=x", "", 0)
	keeps(t, l, nil, true, "a72057594037927935=y a0=x", "", api.MaxSeq-1)
	spans := ranges(span("a", "b", api.MaxSeq))
	keeps(t, list(put("a", 3, "x")), spans, true, "", "")
	keeps(t, list(put("a", 3, "x")), spans, true, "a3=x", "a-b@72057594037927935", api.MaxSeq-1)
}

func TestWhatASpanCoversGoes(t *testing.T) {
	l := list(put("a", 4, "w"), put("b", 6, "x"), put("b", 4, "y"), put("c", 4, "z"))
	spans := ranges(span("a", "c", 5))
	keeps(t, l, spans, true, "b6=x c4=z", "")
	keeps(t, l, spans, false, "b6=x c4=z", "a-c@5")
	// Who looks from ahead of the span needs what it covers.
	keeps(t, l, spans, true, "a4=w b6=x b4=y c4=z", "a-c@5", 4)
	keeps(t, l, spans, true, "b6=x c4=z", "", 5)
	keeps(t, l, spans, true, "b6=x c4=z", "", 3, 5, 6)
}

func TestASpanOfTheSameOrALesserNumberCoversNothing(t *testing.T) {
	l := list(put("a", 5, "x"))
	for _, seq := range []uint64{4, 5} {
		keeps(t, l, ranges(span("a", "b", seq)), true, "a5=x", "")
		keeps(t, l, ranges(span("a", "b", seq)), false, "a5=x", toldSpans(ranges(span("a", "b", seq))))
	}
	keeps(t, l, ranges(span("a", "b", 6)), true, "", "")
}

func TestTheGreatestSpanInTimeCovers(t *testing.T) {
	// As of 5 there is only the span at 2, which is older than a at 3.
	l := list(put("a", 3, "x"))
	spans := ranges(span("a", "b", 7), span("a", "c", 2))
	keeps(t, l, spans, true, "a3=x", "a-b@7", 5)
	keeps(t, l, spans, true, "", "", 8)
}

func TestACoveredEntryHidesOlderOnes(t *testing.T) {
	// As of 9 the newest of a is the one at 4, which the span covers: neither it
	// nor the one at 2 is needed, though no span covers that one alone.
	l := list(put("a", 4, "y"), put("a", 2, "x"))
	keeps(t, l, ranges(span("a", "b", 5)), true, "", "")
	keeps(t, l, ranges(span("a", "b", 5)), true, "a2=x", "a-b@5", 3)
}

func TestDeletesAtTheBottom(t *testing.T) {
	keeps(t, list(del("a", 5)), nil, true, "", "")
	keeps(t, list(del("a", 5)), nil, false, "a51", "")
	keeps(t, list(del("a", 5), put("a", 3, "x")), nil, true, "", "")
	keeps(t, list(del("a", 5), put("a", 3, "x")), nil, false, "a51", "")
	// One behind which an older one stays is needed, the second as well as the first.
	keeps(t, list(del("a", 5), put("a", 3, "x")), nil, true, "a51 a3=x", "", 4)
	keeps(t, list(del("a", 7), del("a", 5), put("a", 3, "x")), nil, true, "a71 a51 a3=x", "", 4, 6)
	// From the oldest on: the delete at 3 goes, so that the one at 5 is the oldest.
	keeps(t, list(del("a", 5), del("a", 3)), nil, true, "", "", 4)
	keeps(t, list(del("a", 5), del("a", 3)), nil, false, "a51 a31", "", 4)
	keeps(t, list(put("a", 7, "y"), del("a", 5), del("a", 3)), nil, true, "a7=y", "", 6, 4)
	keeps(t, list(put("a", 7, "y"), del("a", 5), put("a", 4, "x"), del("a", 3)), nil, true, "a7=y a51 a4=x", "", 6, 4, 3)
}

func TestAnotherKeysEntriesKeepNoDelete(t *testing.T) {
	l := list(put("a", 1, "x"), del("b", 5), put("b\x00", 1, "y"), del("c", 5), put("d", 1, "z"))
	keeps(t, l, nil, true, "a1=x b\x001=y d1=z", "")
	keeps(t, l, nil, false, "a1=x b51 b\x001=y c51 d1=z", "")
}

func TestADeleteThatASpanCoversGoes(t *testing.T) {
	l, spans := list(del("a", 3), put("a", 1, "x")), ranges(span("a", "b", 5))
	keeps(t, l, spans, false, "", "a-b@5")
	keeps(t, l, spans, false, "a31", "a-b@5", 4)
	keeps(t, l, spans, true, "a31 a1=x", "a-b@5", 4, 2)
}

func TestSpansAtTheBottom(t *testing.T) {
	l := list(put("b", 6, "y"), put("b", 2, "x"))
	spans := ranges(
		span("c", "d", 9),     // behind
		span("a", "b", 9),     // ahead
		span("b", "b\x00", 3), // just b
		span("a", "z", 2),     // not newer than b at 2
		span("a", "z", 4), span("a", "z", 4),
		span("b\x00", "z", 4),
	)
	// b at 2 stays for 2 alone: no span is newer and in time.
	keeps(t, l, spans, true, "b6=y b2=x", "b-b\x00@3 a-z@4 a-z@4", 2)
	keeps(t, l, spans, true, "b6=y", "")
	keeps(t, l, spans, false, "b6=y", toldSpans(spans))
	// A span counts what stays behind the deletes have gone.
	keeps(t, list(del("b", 2)), ranges(span("a", "c", 5)), true, "", "", 3)
	keeps(t, list(del("b", 2)), ranges(span("a", "c", 5)), false, "b21", "a-c@5", 3)
}

func TestAPutAndADeleteOfOneNumberInKeep(t *testing.T) {
	// The first in order is the newest.
	l := list(put("a", 5, "x"), del("a", 5), put("a", 1, "y"))
	for _, bottom := range []bool{false, true} {
		keeps(t, l, nil, bottom, "a5=x", "", 5)
		keeps(t, l, nil, bottom, "a5=x a1=y", "", 4)
	}
}

func TestKeepEndsWhateverItIsGiven(t *testing.T) {
	wrong := []api.Span{{}, span("b", "a", 3), span("a", "", 9), span("a", "b", 0), span("a", "b", math.MaxUint64)}
	for _, bottom := range []bool{false, true} {
		glass.Keep(list(put("b", 1, ""), put("a", 1, ""), del("a", 1), del("a", 9), api.Entry{}), wrong, bottom, 1, 0)
	}
	// If not bottom, all spans stay.
	keeps(t, nil, wrong, false, "", toldSpans(wrong))
}

func TestKeepNeitherChangesNorSharesArguments(t *testing.T) {
	for _, bottom := range []bool{false, true} {
		l, spans := roomyContent()
		seqs := append(make([]uint64, 0, 8), 4, 1)
		seqs[:4][2] = 77
		k, s := glass.Keep(l, spans, bottom, seqs...)
		whole(t, l, spans)
		if !slices.Equal(seqs[:4], []uint64{4, 1, 77, 0}) {
			t.Errorf("seqs are %v", seqs[:4])
		}
		wantEntries, wantSpans := toldEntries(k), toldSpans(s)
		k2, s2 := glass.Keep(l, spans, bottom, seqs...)
		spoilEntries(k2)
		spoilSpans(s2)
		whole(t, l, spans)
		spoilEntries(l)
		spoilSpans(spans)
		if toldEntries(k) != wantEntries || toldSpans(s) != wantSpans {
			t.Errorf("kept %s, %s, want %s, %s", toldEntries(k), toldSpans(s), wantEntries, wantSpans)
		}
		for i, e := range k {
			rest := toldEntries(k[i+1:])
			spoil(e.Key.User)
			spoil(e.Value)
			if toldEntries(k[i+1:]) != rest || toldSpans(s) != wantSpans {
				t.Error("two parts of an answer share memory")
			}
		}
	}
}

// rolledContent makes entries that rise and right spans by chance.
func rolledContent(roll func(int) int, key func() string) ([]api.Entry, []api.Span) {
	var l []api.Entry
	for range roll(30) {
		e := put(key(), uint64(roll(14)), strings.Repeat("v", roll(4)))
		if roll(3) == 0 {
			e = del(string(e.Key.User), e.Key.Seq)
		}
		l = append(l, e)
	}
	slices.SortFunc(l, func(a, b api.Entry) int { return ikey.Compare(a.Key, b.Key) })
	l = slices.CompactFunc(l, func(a, b api.Entry) bool { return ikey.Compare(a.Key, b.Key) == 0 })
	var spans []api.Span
	for range roll(5) {
		if from, to := key(), key(); from < to {
			spans = append(spans, span(from, to, uint64(1+roll(14))))
		}
	}
	return l, spans
}

// roller answers numbers below what it is asked for, the same in each run.
func roller() func(int) int {
	state := uint64(1)
	return func(n int) int {
		state = state*6364136223846793005 + 1442695040888963407
		return int((state >> 33) % uint64(n))
	}
}

// plainGet looks through all entries and spans.
func plainGet(l []api.Entry, spans []api.Span, key string, seq uint64) (string, bool) {
	var newest *api.Entry
	for i, e := range l {
		if string(e.Key.User) == key && e.Key.Seq <= seq && (newest == nil || e.Key.Seq > newest.Key.Seq) {
			newest = &l[i]
		}
	}
	if newest == nil || newest.Key.Kind == api.Delete || plainCovered(spans, newest.Key, seq) {
		return "", false
	}
	return string(newest.Value), true
}

// plainCovered tells whether a newer span of at most seq covers the key.
func plainCovered(spans []api.Span, k api.Key, seq uint64) bool {
	return slices.ContainsFunc(spans, func(s api.Span) bool {
		return string(s.From) <= string(k.User) && string(k.User) < string(s.To) && s.Seq <= seq && s.Seq > k.Seq
	})
}

// plainSeen asks plainGet for each key of the entries.
func plainSeen(l []api.Entry, spans []api.Span, seq uint64) []api.Pair {
	var all []api.Pair
	var last string
	for i, e := range l {
		key := string(e.Key.User)
		if i > 0 && key == last {
			continue
		}
		last = key
		if v, ok := plainGet(l, spans, key, seq); ok {
			all = append(all, api.Pair{Key: []byte(key), Value: []byte(v)})
		}
	}
	return all
}

// plainKeep goes through the chapter's words one by one.
func plainKeep(l []api.Entry, spans []api.Span, bottom bool, seqs []uint64) ([]api.Entry, []api.Span) {
	var stay []api.Entry
	for i, e := range l {
		for _, n := range append([]uint64{api.MaxSeq}, seqs...) {
			first := slices.IndexFunc(l, func(x api.Entry) bool {
				return string(x.Key.User) == string(e.Key.User) && x.Key.Seq <= n
			})
			if first == i && !plainCovered(spans, e.Key, n) {
				stay = append(stay, e)
				break
			}
		}
	}
	if !bottom {
		return stay, spans
	}
	for i := len(stay) - 1; i >= 0; i-- {
		older := i+1 < len(stay) && string(stay[i+1].Key.User) == string(stay[i].Key.User)
		if stay[i].Key.Kind == api.Delete && !older {
			stay = slices.Delete(stay, i, i+1)
		}
	}
	var left []api.Span
	for _, s := range spans {
		if slices.ContainsFunc(stay, func(e api.Entry) bool { return plainCovered(ranges(s), e.Key, math.MaxUint64) }) {
			left = append(left, s)
		}
	}
	return stay, left
}

func TestLongRuns(t *testing.T) {
	roll := roller()
	key := func() string { return "abcdef"[roll(5):][:1] + strings.Repeat("a", roll(2)) }
	for range 2000 {
		l, spans := rolledContent(roll, key)
		for seq := range uint64(16) {
			if got, want := toldPairs(open(t, l, spans, seq).Scan(nil, nil, 99, false)), toldPairs(plainSeen(l, spans, seq)); got != want {
				t.Fatalf("seen of %s, %s as of %d: %s, want %s", toldEntries(l), toldSpans(spans), seq, got, want)
			}
		}
		var seqs []uint64
		for range roll(4) {
			seqs = append(seqs, uint64(roll(16)))
		}
		bottom := roll(2) == 0
		wantEntries, wantSpans := plainKeep(l, spans, bottom, seqs)
		keeps(t, l, spans, bottom, toldEntries(wantEntries), toldSpans(wantSpans), seqs...)
		sameSeen(t, l, spans, bottom, seqs)
	}
}

// sameSeen fails unless as of each of seqs, and as of MaxSeq, as much is seen of what is kept.
func sameSeen(t *testing.T, l []api.Entry, spans []api.Span, bottom bool, seqs []uint64) {
	t.Helper()
	k, s := glass.Keep(l, spans, bottom, seqs...)
	for _, n := range append([]uint64{api.MaxSeq}, seqs...) {
		before, after := open(t, l, spans, n), open(t, k, s, n)
		shows(t, after, toldPairs(before.Scan(nil, nil, 99, false)))
		if before.Len() != after.Len() {
			t.Errorf("%d and %d keys are seen", before.Len(), after.Len())
		}
	}
}

// What is seen is what a memo finds.
func TestAsAMemoFinds(t *testing.T) {
	roll := roller()
	key := func() []byte { return []byte("abcdef"[roll(5):][:1]) }
	for range 100 {
		m := memo.New()
		for seq := range uint64(1 + roll(30)) {
			o := api.Op{Kind: byte(1 + roll(2)), Key: key()}
			if o.Kind == api.Put {
				o.Value = key()
			}
			if from, to := key(), key(); roll(4) == 0 && string(from) < string(to) {
				o = api.Op{Kind: api.Range, Key: from, Value: to}
			}
			if err := m.Do(o, seq+1, 1+roll(8)); err != api.OK {
				t.Fatal(err)
			}
		}
		for seq := range uint64(32) {
			g := open(t, m.Entries(), m.Spans(), seq)
			for _, k := range []string{"a", "b", "c", "d", "e", "f"} {
				want, state := m.Get([]byte(k), seq)
				if got, ok := g.Get([]byte(k)); ok != (state == memo.Found) || string(got) != string(want) {
					t.Fatalf("Get(%s) as of %d = %q, %t, want %q, %d", k, seq, got, ok, want, state)
				}
			}
		}
	}
}
