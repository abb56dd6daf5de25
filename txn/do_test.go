package txn_test

import (
	"fmt"
	"math"
	"strings"
	"testing"

	"bartizan/api"
	"bartizan/txn"
)

func TestExamplesOfTheChapter(t *testing.T) {
	x := fresh(t)
	x.begin(2)
	x.do(1, put("a", "x"), "ok")
	x.do(2, get("a"), "waiting")
	x.do(1, plainly(txn.Commit), "ok")
	x.run(2, "value x")

	x = fresh(t)
	x.begin(2)
	x.do(1, get("a"), "not-found")
	x.do(2, get("b"), "not-found")
	x.do(1, put("b", ""), "waiting")
	x.do(2, put("a", ""), "deadlock")
	x.run(1, "ok")
}

func TestBegin(t *testing.T) {
	x := fresh(t)
	for _, c := range []struct {
		wait, life uint64
		want       string
	}{
		{0, 1, "bad-state"},
		{1, 0, "bad-state"},
		{0, 0, "bad-state"},
		{api.MaxTicks + 1, 1, "bad-state"},
		{1, api.MaxTicks + 1, "bad-state"},
		{math.MaxUint64, math.MaxUint64, "bad-state"},
		{1, 1, "ok"},
		{api.MaxTicks, api.MaxTicks, "ok"},
		{1, api.MaxTicks, "ok"},
		{api.MaxTicks, 1, "ok"},
	} {
		known := len(x.s.Known())
		id, answer := x.s.Begin(c.wait, c.life)
		is(t, fmt.Sprintf("Begin(%d, %d)", c.wait, c.life), word(answer), c.want)
		is(t, "is a number", id != 0, answer == api.Fine)
		is(t, "one more", len(x.s.Known())-known == 1, answer == api.Fine)
	}
	// Who is refused takes no number.
	ids(t, "Known", x.s.Known(), 1, 2, 3, 4)
}

func TestAsManyAsThereMayBe(t *testing.T) {
	x := fresh(t)
	x.begin(api.MaxTxns)
	for range 2 {
		id, answer := x.s.Begin(1, 1)
		is(t, "Begin", word(answer), "lock-limit")
		is(t, "its number", id, 0)
	}
	_, answer := x.s.Begin(0, 1)
	is(t, "Begin of a wrong wait", word(answer), "bad-state")
	x.do(7, plainly(txn.Rollback), "ok")
	is(t, "the next number", x.beginFor(1, 1), api.MaxTxns+1)
	_, answer = x.s.Begin(1, 1)
	is(t, "Begin", word(answer), "lock-limit")
	// Prepared ones count, dead ones don't.
	x.do(1, prepare("p"), "ok")
	_, answer = x.s.Begin(1, 1)
	is(t, "Begin beside a prepared one", word(answer), "lock-limit")
	x.tick(1, "ok")
	is(t, "the next number", x.beginFor(1, 1), api.MaxTxns+2)
	x.do(api.MaxTxns+1, get("a"), "expired")
	_, answer = x.s.Begin(1, 1)
	is(t, "Begin", word(answer), "lock-limit")
}

func TestNoSuchTransaction(t *testing.T) {
	x := fresh(t)
	x.begin(3)
	x.do(2, plainly(txn.Rollback), "ok")
	x.do(3, plainly(txn.Commit), "ok")
	for _, id := range []uint64{0, 2, 3, 4, math.MaxUint64} {
		for kind := range 15 {
			x.refuses(id, txn.Request{Kind: byte(kind), Key: []byte("a"), To: []byte("b"), Name: []byte("p")}, "bad-state")
		}
		x.run(id, "bad-state")
		is(t, "Pending", x.s.Pending(id), false)
		ids(t, "Waits", x.s.Waits(id))
	}
}

func TestBadState(t *testing.T) {
	x := fresh(t)
	x.begin(2)
	x.do(1, put("b", "1"), "ok")
	long, value := strings.Repeat("k", api.MaxKey+1), strings.Repeat("v", api.MaxValue+1)
	for _, q := range []txn.Request{
		{},
		{Kind: 13, Key: []byte("a"), To: []byte("b"), Name: []byte("p")},
		{Kind: 255},
		get(""), claim(""), put("", "x"), del(""), span("", "b"), span("", ""),
		put("", value),
		scan("a", "a", 1), scan("b", "a", 1), scan("aa", "a", 1), scan(long, "a", 1), backScan("b", "b", 1),
		span("a", ""), span("a", "a"), span("b", "a"), span("aa", "a"), span(long, "a"), span(long, long),
		prepare(""),
		{Kind: txn.Prepare, Key: []byte("p")},
	} {
		x.refuses(1, q, "bad-state")
	}
	x.do(1, get("b"), "value 1")
	x.do(1, prepare("p"), "ok")
	for kind := range 15 {
		if kind != txn.Commit && kind != txn.Rollback {
			x.refuses(1, txn.Request{Kind: byte(kind), Key: []byte("a"), To: []byte("b"), Name: []byte("q")}, "bad-state")
			x.refuses(1, txn.Request{Kind: byte(kind), Key: []byte(long), To: []byte(long + "k"), Name: []byte(value), Value: []byte(value)}, "bad-state")
		}
	}
	x.do(1, plainly(txn.Commit), "ok")
	x.has("b=1")
}

func TestTooLarge(t *testing.T) {
	x := fresh(t)
	x.begin(2)
	key, value, name := strings.Repeat("k", api.MaxKey), strings.Repeat("v", api.MaxValue), strings.Repeat("n", api.MaxName)
	long := key + "k"
	for _, q := range []txn.Request{
		get(long), claim(long), put(long, ""), del(long), span(long, long+"k"), span(long, "z"), span("a", long),
		scan(long, "", 1), scan("", long, 1), scan("a", long, 1), scan(long, "z", 1), backScan(long, "z", 1),
		put("a", value+"v"), put(long, value+"v"), prepare(name + "n"),
	} {
		x.refuses(1, q, "too-large")
	}
	// No lock was had by what was refused.
	x.do(2, put(key, value), "ok")
	x.do(2, span("a", key), "ok")
	x.do(2, span(key, key+"\xff"), "too-large")
	x.do(2, scan("", key, 1), "ok")
	x.do(2, scan(key, "", 1), "ok "+key+"="+value)
	x.do(2, get(key), "value "+value)
	x.do(2, claim(key), "value "+value)
	x.do(2, del(key), "ok")
	x.do(2, get(key), "not-found")
	x.do(2, put(key, value), "ok")
	x.do(2, prepare(name), "ok")
	x.decide(name, true, "ok")
	x.has(key + "=" + value)
}

// What a request doesn't use may be anything.
func TestWhatIsNotUsed(t *testing.T) {
	x := fresh(t)
	x.begin(1)
	much := []byte(strings.Repeat("m", 2000))
	fill := func(q txn.Request) txn.Request {
		if q.Key == nil {
			q.Key = much
		}
		if q.Value == nil {
			q.Value = much
		}
		if q.To == nil {
			q.To = much
		}
		if q.Name == nil {
			q.Name = much
		}
		q.Most, q.Back = max(q.Most, -5), q.Kind != txn.Scan
		return q
	}
	for _, c := range []struct {
		q    txn.Request
		want string
	}{
		{get("a"), "not-found"},
		{put("a", "1"), "ok"},
		{get("a"), "value 1"},
		{claim("a"), "value 1"},
		{plainly(txn.Save), "ok"},
		{del("a"), "ok"},
		{plainly(txn.Back), "ok"},
		{plainly(txn.Pop), "ok"},
		{span("b", "c"), "ok"},
		{scan("a", "b", 3), "ok a=1"},
		{prepare("p"), "ok"},
		{plainly(txn.Commit), "ok"},
	} {
		x.do(1, fill(c.q), c.want)
	}
	x.has("a=1")
	x.begin(2)
	x.do(2, fill(del("a")), "ok")
	x.do(3, fill(get("a")), "waiting")
	x.do(2, fill(plainly(txn.Commit)), "ok")
	x.run(3, "not-found")
	x.do(3, fill(plainly(txn.Rollback)), "ok")
	x.has("")
}

func TestTooManyOps(t *testing.T) {
	x := fresh(t)
	x.begin(2)
	x.do(1, plainly(txn.Save), "ok")
	for i := range api.MaxOps {
		switch i % 3 {
		case 0:
			x.do(1, put(fmt.Sprint("k", i), "v"), "ok")
		case 1:
			x.do(1, del("a"), "ok")
		default:
			x.do(1, span("b", "c"), "ok")
		}
	}
	for _, q := range []txn.Request{put("x", "v"), del("x"), span("x", "y"), put("k0", "v")} {
		x.refuses(1, q, "too-large")
	}
	x.refuses(1, put("", "v"), "bad-state")
	// No lock was had, and all else goes on.
	x.do(2, put("x", "v"), "ok")
	x.do(1, get("k0"), "value v")
	x.do(1, claim("k1"), "not-found")
	x.do(1, scan("k0", "k1", 5), "ok k0=v")
	x.do(1, plainly(txn.Save), "ok")
	x.do(1, plainly(txn.Pop), "ok")
	x.do(1, plainly(txn.Back), "ok")
	x.do(1, put("k0", "w"), "ok")
	x.do(1, plainly(txn.Commit), "ok")
	x.do(2, plainly(txn.Rollback), "ok")
	x.has("k0=w")
}

func TestAllOpsAreWritten(t *testing.T) {
	x := fresh(t)
	x.begin(1)
	var want []string
	for i := range api.MaxOps {
		x.do(1, put(fmt.Sprintf("k%02d", i), "v"), "ok")
		want = append(want, fmt.Sprintf("k%02d=v", i))
	}
	x.do(1, plainly(txn.Commit), "ok")
	x.has(strings.Join(want, " "))
}

func TestTooManySavepoints(t *testing.T) {
	x := fresh(t)
	x.begin(1)
	for range api.MaxOps {
		x.do(1, plainly(txn.Save), "ok")
	}
	x.refuses(1, plainly(txn.Save), "too-large")
	x.do(1, put("a", "1"), "ok")
	x.do(1, plainly(txn.Back), "ok")
	x.do(1, plainly(txn.Pop), "ok")
	x.do(1, plainly(txn.Save), "ok")
	x.refuses(1, plainly(txn.Save), "too-large")
	for range api.MaxOps {
		x.do(1, plainly(txn.Pop), "ok")
	}
	x.refuses(1, plainly(txn.Pop), "not-found")
	x.refuses(1, plainly(txn.Back), "not-found")
}

func TestSavepoints(t *testing.T) {
	x := fresh(t)
	x.write(put("a", "0"))
	x.begin(2)
	x.refuses(2, plainly(txn.Back), "not-found")
	x.refuses(2, plainly(txn.Pop), "not-found")
	x.do(2, put("a", "1"), "ok")
	x.do(2, plainly(txn.Save), "ok")
	x.do(2, del("a"), "ok")
	x.do(2, put("b", "2"), "ok")
	x.do(2, plainly(txn.Save), "ok")
	x.do(2, span("a", "c"), "ok")
	x.do(2, put("c", "3"), "ok")
	x.do(2, scan("", "", 9), "ok c=3")
	x.do(2, plainly(txn.Back), "ok")
	x.do(2, scan("", "", 9), "ok b=2")
	// It stays: one may go back to it again.
	x.do(2, put("b", "4"), "ok")
	x.do(2, plainly(txn.Back), "ok")
	x.do(2, plainly(txn.Back), "ok")
	x.do(2, get("b"), "value 2")
	// A savepoint that is forgotten leaves the ops behind it.
	x.do(2, put("d", "5"), "ok")
	x.do(2, plainly(txn.Pop), "ok")
	x.do(2, scan("", "", 9), "ok b=2 d=5")
	// What was forgotten is locked still.
	x.do(3, get("c"), "waiting")
	x.do(2, plainly(txn.Back), "ok")
	x.do(2, scan("", "", 9), "ok a=1")
	x.do(2, plainly(txn.Pop), "ok")
	x.do(2, plainly(txn.Pop), "not-found")
	x.do(2, get("a"), "value 1")
	x.do(2, plainly(txn.Commit), "ok")
	x.run(3, "not-found")
	x.has("a=1")
}

// What a key has is what the store has, behind the transaction's own ops, in order.
func TestWhatAKeyHas(t *testing.T) {
	x := fresh(t)
	x.write(put("a", "1"), put("b", "2"), put("c", ""), put("e", "5"))
	is(t, "Flush", word(x.s.Flush()), "ok")
	x.write(put("a", "3"), del("e"))
	x.begin(1)
	id := uint64(3)
	for _, q := range []txn.Request{get("a"), claim("a")} {
		x.do(id, q, "value 3")
	}
	for _, q := range []txn.Request{get("c"), claim("c")} {
		x.do(id, q, "value")
	}
	for _, q := range []txn.Request{get("d"), claim("d"), get("e"), claim("e"), get("a\x00"), get("\x00")} {
		x.do(id, q, "not-found")
	}
	x.do(id, put("a", "4"), "ok")
	x.do(id, get("a"), "value 4")
	x.do(id, put("a", "5"), "ok")
	x.do(id, claim("a"), "value 5")
	x.do(id, del("a"), "ok")
	x.do(id, get("a"), "not-found")
	x.do(id, put("a", ""), "ok")
	x.do(id, get("a"), "value")
	x.do(id, span("a", "c"), "ok")
	x.do(id, get("a"), "not-found")
	x.do(id, get("b"), "not-found")
	x.do(id, get("c"), "value")
	x.do(id, put("b", "6"), "ok")
	x.do(id, get("b"), "value 6")
	x.do(id, del("nothing"), "ok")
	x.do(id, get("nothing"), "not-found")
	x.do(id, scan("", "", 9), "ok b=6 c=")
	// The store has none of it yet.
	x.has("a=3 b=2 c=")
	x.do(id, plainly(txn.Commit), "ok")
	x.has("b=6 c=")
}

func TestScan(t *testing.T) {
	x := fresh(t)
	x.write(put("a", "1"), put("b", "2"), put("c", "3"), put("d", "4"), put("e", "5"))
	x.begin(1)
	x.do(2, del("b"), "ok")
	x.do(2, put("bb", "6"), "ok")
	x.do(2, put("d", "7"), "ok")
	x.do(2, put("f", "8"), "ok")
	x.do(2, put("\x00", "9"), "ok")
	for _, c := range []struct {
		q    txn.Request
		want string
	}{
		{scan("", "", 99), "ok \x00=9 a=1 bb=6 c=3 d=7 e=5 f=8"},
		{backScan("", "", 99), "ok f=8 e=5 d=7 c=3 bb=6 a=1 \x00=9"},
		{scan("", "", math.MaxInt), "ok \x00=9 a=1 bb=6 c=3 d=7 e=5 f=8"},
		{backScan("", "", math.MaxInt), "ok f=8 e=5 d=7 c=3 bb=6 a=1 \x00=9"},
		{scan("", "", 3), "ok \x00=9 a=1 bb=6"},
		{backScan("", "", 3), "ok f=8 e=5 d=7"},
		{scan("", "", 0), "ok"},
		{scan("", "", -1), "ok"},
		{backScan("", "", math.MinInt), "ok"},
		{scan("b", "d", 9), "ok bb=6 c=3"},
		{backScan("b", "d", 9), "ok c=3 bb=6"},
		{scan("bb", "bb\x00", 9), "ok bb=6"},
		{scan("c", "", 2), "ok c=3 d=7"},
		{backScan("c", "", 2), "ok f=8 e=5"},
		{scan("", "b", 9), "ok \x00=9 a=1"},
		{scan("", "\x00", 9), "ok"},
		{scan("g", "", 9), "ok"},
		{scan("b", "bb", 9), "ok"},
		{scan("a\x00", "c\x00", 1), "ok bb=6"},
		{backScan("a\x00", "c\x00", 1), "ok c=3"},
	} {
		x.do(2, c.q, c.want)
	}
	x.do(2, span("a", "d"), "ok")
	x.do(2, scan("", "", 2), "ok \x00=9 d=7")
	x.do(2, scan("c", "e", 2), "ok d=7")
	x.do(2, put("c", ""), "ok")
	x.do(2, scan("c", "e", 2), "ok c= d=7")
	x.do(2, plainly(txn.Rollback), "ok")
	x.has("a=1 b=2 c=3 d=4 e=5")
}

// A range deletes from Key on and below To, whatever lies there.
func TestRange(t *testing.T) {
	x := fresh(t)
	x.write(put("a", "1"), put("b", "2"), put("bb", "3"), put("c", "4"))
	x.begin(1)
	x.do(2, span("b", "c"), "ok")
	x.do(2, scan("", "", 9), "ok a=1 c=4")
	x.do(2, span("x", "y"), "ok")
	x.do(2, plainly(txn.Commit), "ok")
	x.has("a=1 c=4")
	x.begin(1)
	x.do(3, span("a", "a\x00"), "ok")
	x.do(3, plainly(txn.Commit), "ok")
	x.has("c=4")
}
