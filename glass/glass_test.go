package glass_test

import (
	"bytes"
	"math"
	"strconv"
	"strings"
	"testing"

	"bartizan/api"
	"bartizan/glass"
)

func put(user string, seq uint64, value string) api.Entry {
	return api.Entry{Key: api.Key{User: []byte(user), Seq: seq, Kind: api.Put}, Value: []byte(value)}
}

func del(user string, seq uint64) api.Entry {
	return api.Entry{Key: api.Key{User: []byte(user), Seq: seq, Kind: api.Delete}}
}

func span(from, to string, seq uint64) api.Span {
	return api.Span{From: []byte(from), To: []byte(to), Seq: seq}
}

func list(l ...api.Entry) []api.Entry {
	return l
}

func ranges(l ...api.Span) []api.Span {
	return l
}

// toldPairs writes pairs as one text.
func toldPairs(l []api.Pair) string {
	var all []string
	for _, p := range l {
		all = append(all, string(p.Key)+"="+string(p.Value))
	}
	return strings.Join(all, " ")
}

// toldEntries writes entries as one text.
func toldEntries(l []api.Entry) string {
	var all []string
	for _, e := range l {
		kind := strconv.Itoa(int(e.Key.Kind))
		if e.Key.Kind == api.Put {
			kind = "=" + string(e.Value)
		}
		all = append(all, string(e.Key.User)+strconv.FormatUint(e.Key.Seq, 10)+kind)
	}
	return strings.Join(all, " ")
}

// toldSpans writes spans as one text.
func toldSpans(l []api.Span) string {
	var all []string
	for _, s := range l {
		all = append(all, string(s.From)+"-"+string(s.To)+"@"+strconv.FormatUint(s.Seq, 10))
	}
	return strings.Join(all, " ")
}

// open fails unless there is a glass of these.
func open(t *testing.T, l []api.Entry, spans []api.Span, seq uint64) *glass.Glass {
	t.Helper()
	g, err := glass.New(l, spans, seq)
	if err != api.OK || g == nil {
		t.Fatalf("New(%s, %s, %d) = %v, %d", toldEntries(l), toldSpans(spans), seq, g, err)
	}
	return g
}

// shows fails unless that is all that is seen, by each of the methods.
func shows(t *testing.T, g *glass.Glass, want string) {
	t.Helper()
	l := g.Scan(nil, nil, math.MaxInt, false)
	if got := toldPairs(l); got != want {
		t.Errorf("seen %s, want %s", got, want)
	}
	if g.Len() != len(l) {
		t.Errorf("Len() = %d of %s", g.Len(), want)
	}
	for _, p := range l {
		if v, ok := g.Get(p.Key); !ok || string(v) != string(p.Value) {
			t.Errorf("Get(%q) = %q, %t", p.Key, v, ok)
		}
	}
}

// hides fails if one of the keys is seen.
func hides(t *testing.T, g *glass.Glass, keys ...string) {
	t.Helper()
	for _, key := range keys {
		if v, ok := g.Get([]byte(key)); ok || v != nil {
			t.Errorf("Get(%q) = %q, %t", key, v, ok)
		}
	}
}

// example is the chapter's.
func example() ([]api.Entry, []api.Span) {
	return list(put("a", 3, "y"), put("a", 1, "x")), ranges(span("a", "c", 2))
}

func TestTheExample(t *testing.T) {
	l, spans := example()
	shows(t, open(t, l, spans, 0), "")
	shows(t, open(t, l, spans, 1), "a=x")
	shows(t, open(t, l, spans, 2), "")
	hides(t, open(t, l, spans, 2), "a", "b")
	shows(t, open(t, l, spans, 9), "a=y")
}

func TestOfNothing(t *testing.T) {
	for _, spans := range [][]api.Span{nil, {}, ranges(span("a", "c", 2))} {
		for _, seq := range []uint64{0, 9, api.MaxSeq, math.MaxUint64} {
			g := open(t, nil, spans, seq)
			shows(t, g, "")
			hides(t, g, "", "a")
		}
	}
}

func TestOfANilGlass(t *testing.T) {
	var g *glass.Glass
	hides(t, g, "", "a")
	if g.Len() != 0 || len(g.Scan(nil, nil, 9, false)) != 0 || len(g.Scan([]byte("a"), []byte("b"), 9, true)) != 0 {
		t.Error("a nil glass has something")
	}
}

func TestOneKeyAsOfEachNumber(t *testing.T) {
	l := list(put("k", 9, "nine"), del("k", 6), put("k", 4, ""), put("k", 2, "two"))
	spans := ranges(span("j", "l", 3), span("k", "k\x00", 7), span("a", "k", 8), span("k\x00", "z", 8))
	for seq, want := range []string{"", "", "k=two", "", "k=", "k=", "", "", "", "k=nine", "k=nine"} {
		g := open(t, l, spans, uint64(seq))
		shows(t, g, want)
		if want == "" {
			hides(t, g, "k")
		}
	}
}

func TestASpanAndAVersionOfOneNumber(t *testing.T) {
	// The span has to be of a greater Seq.
	shows(t, open(t, list(put("a", 5, "x")), ranges(span("a", "b", 5)), 5), "a=x")
	shows(t, open(t, list(put("a", 5, "x")), ranges(span("a", "b", 6)), 5), "a=x")
	shows(t, open(t, list(put("a", 5, "x")), ranges(span("a", "b", 6)), 6), "")
	shows(t, open(t, list(put("a", 5, "x")), ranges(span("a", "b", 4)), 6), "a=x")
}

func TestTheEndsOfASpan(t *testing.T) {
	l := list(put("a", 1, "1"), put("b", 1, "2"), put("b\x00", 1, "3"), put("c", 1, "4"), put("d", 1, "5"))
	shows(t, open(t, l, ranges(span("b", "d", 2)), 2), "a=1 d=5")
	shows(t, open(t, l, ranges(span("b\x00", "c", 2)), 2), "a=1 b=2 c=4 d=5")
}

func TestTheGreatestSpanThatIsInTime(t *testing.T) {
	spans := ranges(span("a", "b", 9), span("a", "c", 4), span("a", "d", 2))
	l := list(put("a", 3, "x"), put("b", 3, "y"), put("c", 3, "z"))
	shows(t, open(t, l, spans, 3), "a=x b=y c=z")
	shows(t, open(t, l, spans, 4), "c=z")
	shows(t, open(t, l, spans, 9), "c=z")
}

func TestAPutAndADeleteOfOneNumber(t *testing.T) {
	// The first in order is found.
	shows(t, open(t, list(put("a", 5, "x"), del("a", 5), put("a", 1, "y")), nil, 5), "a=x")
}

func TestNumbersAtTheEnd(t *testing.T) {
	l := list(put("a", api.MaxSeq, "last"), put("a", 0, "first"))
	shows(t, open(t, l, nil, 0), "a=first")
	shows(t, open(t, l, nil, api.MaxSeq-1), "a=first")
	shows(t, open(t, l, nil, api.MaxSeq), "a=last")
	shows(t, open(t, l, nil, math.MaxUint64), "a=last")
	spans := ranges(span("a", "b", api.MaxSeq))
	shows(t, open(t, list(put("a", 3, "x")), spans, api.MaxSeq-1), "a=x")
	shows(t, open(t, list(put("a", 3, "x")), spans, math.MaxUint64), "")
}

func TestEntriesThatDoNotRise(t *testing.T) {
	for _, l := range [][]api.Entry{
		list(put("b", 1, ""), put("a", 1, "")),
		list(put("a", 1, ""), put("a", 1, "")),
		list(put("a", 1, ""), put("a", 2, "")),
		list(del("a", 1), put("a", 1, "")),
		list(put("a", 1, ""), put("b", 1, ""), put("b", 1, "")),
		list(put("a", 1, ""), put("c", 1, ""), put("b", 1, "")),
	} {
		// A span that isn't right comes behind.
		for _, spans := range [][]api.Span{nil, ranges(span("a", "b", 1)), ranges(span("b", "a", 1))} {
			if g, err := glass.New(l, spans, 9); g != nil || err != api.ErrOrder {
				t.Errorf("New(%s) = %v, %d", toldEntries(l), g, err)
			}
		}
	}
}

func TestSpansThatAreNotRight(t *testing.T) {
	l, right := example()
	long := strings.Repeat("k", api.MaxKey+1)
	for _, s := range []api.Span{
		{}, span("", "b", 1), span("a", "", 1), span("a", "a", 1), span("b", "a", 1),
		span("a", "b", 0), span("a", "b", api.MaxSeq+1), span("a", long, 1), span(long, "l", 1),
	} {
		for _, spans := range [][]api.Span{ranges(s), append(ranges(s), right...), append(right, s)} {
			// Neither as of a number ahead of it is it passed over.
			for _, seq := range []uint64{0, 9} {
				if g, err := glass.New(l, spans, seq); g != nil || err != api.ErrForm {
					t.Errorf("New with %s = %v, %d", toldSpans(spans), g, err)
				}
			}
		}
	}
	edge := strings.Repeat("k", api.MaxKey)
	shows(t, open(t, list(put("k", 1, "x")), ranges(span("k", edge, 2), span(edge, "l", api.MaxSeq)), 9), "")
}

func TestGet(t *testing.T) {
	g := open(t, list(put("b", 1, "x"), put("d", 1, "")), nil, 9)
	if v, ok := g.Get([]byte("b")); string(v) != "x" || !ok {
		t.Errorf("Get(b) = %q, %t", v, ok)
	}
	if v, ok := g.Get([]byte("d")); string(v) != "" || !ok {
		t.Errorf("Get(d) = %q, %t", v, ok)
	}
	hides(t, g, "", "a", "b\x00", "c", "e", strings.Repeat("b", 1000))
}

func TestScan(t *testing.T) {
	l := list(put("b", 1, "1"), put("c", 1, "2"), put("c\x00", 1, "3"), del("d", 2), put("d", 1, "4"), put("e", 1, "5"), put("\xff", 1, "6"))
	g := open(t, l, nil, 9)
	for _, x := range []struct {
		from, to string
		most     int
		back     bool
		want     string
	}{
		{"", "", 9, false, "b=1 c=2 c\x00=3 e=5 \xff=6"},
		{"", "", 9, true, "\xff=6 e=5 c\x00=3 c=2 b=1"},
		{"", "", 5, false, "b=1 c=2 c\x00=3 e=5 \xff=6"},
		{"", "", 2, false, "b=1 c=2"},
		{"", "", 2, true, "\xff=6 e=5"},
		{"", "", 1, true, "\xff=6"},
		{"", "", 0, false, ""},
		{"", "", 0, true, ""},
		{"", "", -1, false, ""},
		{"", "", math.MinInt, true, ""},
		{"", "", math.MaxInt, true, "\xff=6 e=5 c\x00=3 c=2 b=1"},
		{"c", "", 9, false, "c=2 c\x00=3 e=5 \xff=6"},
		{"c", "", 3, true, "\xff=6 e=5 c\x00=3"},
		{"b\x00", "", 1, false, "c=2"},
		{"c\x00\x00", "", 9, false, "e=5 \xff=6"},
		{"\xff\x00", "", 9, false, ""},
		{"", "c", 9, false, "b=1"},
		{"", "c\x00", 9, false, "b=1 c=2"},
		{"", "c\x00", 1, true, "c=2"},
		{"", "b", 9, false, ""},
		{"", "\xff\xff", 9, false, "b=1 c=2 c\x00=3 e=5 \xff=6"},
		{"c", "e", 9, false, "c=2 c\x00=3"},
		{"c", "e", 9, true, "c\x00=3 c=2"},
		{"d", "e", 9, false, ""},
		{"c", "c", 9, false, ""},
		{"c", "c\x00", 9, true, "c=2"},
		{"e", "c", 9, false, ""},
		{"z", "a", 9, true, ""},
	} {
		got := toldPairs(g.Scan([]byte(x.from), []byte(x.to), x.most, x.back))
		if got != x.want {
			t.Errorf("Scan(%q, %q, %d, %t) = %q, want %q", x.from, x.to, x.most, x.back, got, x.want)
		}
	}
}

// roomy copies p in front of spare room whose bytes are known.
func roomy(p string) []byte {
	q := bytes.Repeat([]byte{0xa5}, len(p)+16)
	copy(q, p)
	return q[:len(p)]
}

// untouched tells whether q, which roomy made, is as it was.
func untouched(q []byte) bool {
	return bytes.Equal(q[len(q):len(q)+16], bytes.Repeat([]byte{0xa5}, 16))
}

// spoil writes over bytes and their spare room.
func spoil(p []byte) {
	p = p[:cap(p)]
	for i := range p {
		p[i] = 0x5a
	}
}

// roomyContent makes entries and spans, with spare room wherever there may be some.
func roomyContent() ([]api.Entry, []api.Span) {
	l := make([]api.Entry, 0, 8)
	for _, e := range list(put("a", 3, "y"), put("a", 1, "x"), put("b", 4, "z"), del("c", 4), put("d", 1, "w")) {
		e.Key.User, e.Value = roomy(string(e.Key.User)), roomy(string(e.Value))
		l = append(l, e)
	}
	l[:6][5] = put("spare", 1, "spare")
	spans := append(make([]api.Span, 0, 4), api.Span{From: roomy("a"), To: roomy("c"), Seq: 2}, api.Span{From: roomy("d"), To: roomy("e"), Seq: 5})
	spans[:3][2] = span("spare", "sparf", 1)
	return l, spans
}

const (
	roomyEntries = "a3=y a1=x b4=z c41 d1=w spare1=spare"
	roomySpans   = "a-c@2 d-e@5 spare-sparf@1"
)

// whole fails unless what roomyContent made is as it was.
func whole(t *testing.T, l []api.Entry, spans []api.Span) {
	t.Helper()
	if toldEntries(l[:6]) != roomyEntries || toldSpans(spans[:3]) != roomySpans {
		t.Errorf("changed: %s, %s", toldEntries(l[:6]), toldSpans(spans[:3]))
	}
	for _, e := range l {
		if !untouched(e.Key.User) || !untouched(e.Value) {
			t.Errorf("the room of %s was written to", toldEntries(list(e)))
		}
	}
	for _, s := range spans {
		if !untouched(s.From) || !untouched(s.To) {
			t.Errorf("the room of %s was written to", toldSpans(ranges(s)))
		}
	}
}

// spoilEntries writes over all of them.
func spoilEntries(l []api.Entry) {
	for _, e := range l {
		spoil(e.Key.User)
		spoil(e.Value)
	}
	l = l[:cap(l)]
	for i := range l {
		l[i] = put("spoilt", 1, "spoilt")
	}
}

// spoilSpans writes over all of them.
func spoilSpans(l []api.Span) {
	for _, s := range l {
		spoil(s.From)
		spoil(s.To)
	}
	l = l[:cap(l)]
	for i := range l {
		l[i] = span("spoilt", "spoilu", 1)
	}
}

func TestArgumentsAreNeitherChangedNorKept(t *testing.T) {
	l, spans := roomyContent()
	g := open(t, l, spans, 4)
	whole(t, l, spans)
	spoilEntries(l)
	spoilSpans(spans)
	shows(t, g, "a=y b=z d=w")
	key, from, to := roomy("a"), roomy("b"), roomy("d")
	g.Get(key)
	g.Scan(from, to, 9, false)
	g.Scan(from, to, 9, true)
	for _, p := range [][]byte{key, from, to} {
		if !untouched(p) {
			t.Errorf("the room of %q was written to", p)
		}
		spoil(p)
	}
	shows(t, g, "a=y b=z d=w")
}

func TestAnswersAreNewMemory(t *testing.T) {
	l, spans := roomyContent()
	g := open(t, l, spans, 4)
	v, _ := g.Get([]byte("a"))
	one, two := g.Scan(nil, nil, 9, false), g.Scan(nil, nil, 2, true)
	spoil(v)
	for i, p := range one {
		spoil(p.Key)
		if string(p.Value) != []string{"y", "z", "w"}[i] {
			t.Errorf("a key shares memory with its value: %q", p.Value)
		}
		spoil(p.Value)
		if rest := toldPairs(one[i+1:]); rest != []string{"b=z d=w", "d=w", ""}[i] {
			t.Errorf("two pairs share memory: %s", rest)
		}
	}
	one = one[:cap(one)]
	for i := range one {
		one[i] = api.Pair{}
	}
	if got := toldPairs(two); got != "d=w b=z" {
		t.Errorf("two answers share memory: %s", got)
	}
	shows(t, g, "a=y b=z d=w")
	whole(t, l, spans)
}
