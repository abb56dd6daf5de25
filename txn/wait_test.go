package txn_test

import (
	"fmt"
	"strings"
	"testing"

	"bartizan/api"
	"bartizan/txn"
)

// Which requests of a key go together with which.
func TestModes(t *testing.T) {
	kinds := []txn.Request{get("k"), scan("k", "l", 1), claim("k"), put("k", ""), del("k"), span("k", "l")}
	names := "SSUXXX"
	for i, first := range kinds {
		for j, second := range kinds {
			x := fresh(t)
			x.begin(2)
			x.s.Do(1, first)
			pair := names[i:i+1] + names[j:j+1]
			waits := pair != "SS" && pair != "SU" && pair != "US"
			got := x.s.Do(2, second).Answer
			is(t, fmt.Sprintf("%d behind %d waits", second.Kind, first.Kind), got == api.Waiting, waits)
			is(t, "Pending", x.s.Pending(2), waits)
			is(t, "it waits for one", len(x.s.Waits(2)) == 1, waits)
		}
	}
}

// Which keys a request's lock is of: a put of the other transaction has to wait there alone.
func TestWhatIsLocked(t *testing.T) {
	most := strings.Repeat("k", api.MaxKey)
	for _, c := range []struct {
		q     txn.Request
		waits string
		free  string
	}{
		{get("b"), "b", "a a\xff b\x00 ba c"},
		{claim("b"), "b", "a a\xff b\x00 ba c"},
		{put("b", ""), "b", "a a\xff b\x00 ba c"},
		{del("b"), "b", "a a\xff b\x00 ba c"},
		{get(most), most, most[1:] + " l"},
		{span("b", "d"), "b b\x00 bb c c\xff", "a a\xff d d\x00 e"},
		{scan("b", "d", 9), "b b\x00 bb c c\xff", "a a\xff d d\x00 e"},
		{scan("b", "d", 0), "b b\x00 bb c c\xff", "a a\xff d d\x00 e"},
		{backScan("b", "d", 1), "b b\x00 bb c c\xff", "a a\xff d d\x00 e"},
		{scan("b", "", 1), "b b\x00 c \xff\xff", "a a\xff"},
		{scan("", "b", 1), "\x00 a a\xff", "b b\x00 c"},
		{scan("", "", 1), "\x00 a b \xff\xff\xff", ""},
		{plainly(txn.Save), "", "a b"},
	} {
		for want, keys := range map[string]string{"waiting": c.waits, "ok": c.free} {
			for _, k := range strings.Fields(strings.ReplaceAll(keys, "\x00", "~")) {
				x := fresh(t)
				x.begin(2)
				x.s.Do(1, c.q)
				x.do(2, put(strings.ReplaceAll(k, "~", "\x00"), ""), want)
			}
		}
	}
}

// Who has a lock keeps it till it is over.
func TestLocksLast(t *testing.T) {
	x := fresh(t)
	x.begin(3)
	x.do(1, get("a"), "not-found")
	x.do(1, put("b", "1"), "ok")
	x.do(2, get("b"), "waiting")
	x.do(3, put("a", "2"), "waiting")
	ids(t, "Waits of 2", x.s.Waits(2), 1)
	ids(t, "Waits of 3", x.s.Waits(3), 1)
	x.do(1, prepare("p"), "ok")
	x.run(2, "waiting")
	x.run(3, "waiting")
	x.do(1, plainly(txn.Rollback), "ok")
	ids(t, "Waits of 2", x.s.Waits(2))
	x.run(3, "ok")
	x.run(2, "not-found")
	x.do(3, plainly(txn.Commit), "ok")
	x.has("a=2")
}

// Who reads and then writes has to wait for other readers alone.
func TestUpgrade(t *testing.T) {
	x := fresh(t)
	x.begin(3)
	x.do(1, get("a"), "not-found")
	x.do(1, put("a", "1"), "ok")
	x.do(1, get("a"), "value 1")
	x.do(1, plainly(txn.Commit), "ok")
	x.do(2, claim("a"), "value 1")
	x.do(3, get("a"), "value 1")
	x.do(2, put("a", "2"), "waiting")
	ids(t, "Waits", x.s.Waits(2), 3)
	x.do(3, plainly(txn.Commit), "ok")
	x.run(2, "ok")
}

// Nobody passes who waits; and Waits tells for whom, also of those ahead in the queue.
func TestQueue(t *testing.T) {
	x := fresh(t)
	x.begin(4)
	x.do(1, get("a"), "not-found")
	x.do(2, get("a"), "not-found")
	x.do(3, put("a", "3"), "waiting")
	x.do(4, get("a"), "waiting")
	ids(t, "Waits of 3", x.s.Waits(3), 1, 2)
	ids(t, "Waits of 4", x.s.Waits(4), 3)
	ids(t, "Waits of 1", x.s.Waits(1))
	x.do(1, plainly(txn.Commit), "ok")
	ids(t, "Waits of 3", x.s.Waits(3), 2)
	x.do(2, plainly(txn.Rollback), "ok")
	ids(t, "Waits of 3", x.s.Waits(3))
	is(t, "Pending of 3", x.s.Pending(3), true)
	x.run(4, "waiting")
	x.run(3, "ok")
	x.do(3, plainly(txn.Commit), "ok")
	x.run(4, "value 3")
}

func TestBusy(t *testing.T) {
	x := fresh(t)
	x.begin(3)
	x.do(1, put("a", "1"), "ok")
	x.do(2, get("a"), "waiting")
	all := func() {
		t.Helper()
		for kind := range 15 {
			x.refuses(2, txn.Request{Kind: byte(kind), Key: []byte("a"), To: []byte("b"), Name: []byte("p")}, "busy")
			x.refuses(2, txn.Request{Kind: byte(kind), Key: []byte(strings.Repeat("k", 99))}, "busy")
		}
		x.refuses(2, get(""), "busy")
	}
	all()
	is(t, "Pending", x.s.Pending(2), true)
	// Even when it has its lock.
	x.do(1, plainly(txn.Commit), "ok")
	all()
	x.run(2, "value 1")
	is(t, "Pending", x.s.Pending(2), false)
	x.run(2, "bad-state")
	// And when it is late.
	x.do(3, put("b", ""), "ok")
	x.do(2, get("b"), "waiting")
	x.tick(1000, "ok")
	all()
	x.run(2, "timed-out")
	x.run(2, "bad-state")
	x.do(2, get("a"), "value 1")
}

// What was pending is done by Run as it would have been at once.
func TestRunOfEachKind(t *testing.T) {
	for _, c := range []struct {
		q          txn.Request
		want, then string
	}{
		{get("b"), "value 2", "a=1 b=2 c=3"},
		{get("bb"), "not-found", "a=1 b=2 c=3"},
		{claim("b"), "value 2", "a=1 b=2 c=3"},
		{claim("bb"), "not-found", "a=1 b=2 c=3"},
		{put("b", "x"), "ok", "a=1 b=x c=3"},
		{put("b", ""), "ok", "a=1 b= c=3"},
		{del("b"), "ok", "a=1 c=3"},
		{span("a", "c"), "ok", "c=3"},
		{scan("", "", 2), "ok a=1 b=2", "a=1 b=2 c=3"},
		{backScan("", "", 2), "ok c=3 b=2", "a=1 b=2 c=3"},
		{scan("b", "c", 9), "ok b=2", "a=1 b=2 c=3"},
		{scan("b", "", -3), "ok", "a=1 b=2 c=3"},
	} {
		x := fresh(t)
		x.begin(2)
		x.do(1, put("a", "1"), "ok")
		x.do(1, put("b", "2"), "ok")
		x.do(1, put("c", "3"), "ok")
		x.do(1, del("bb"), "ok")
		x.do(2, c.q, "waiting")
		x.run(2, "waiting")
		is(t, "Pending", x.s.Pending(2), true)
		x.do(1, plainly(txn.Commit), "ok")
		is(t, "Pending", x.s.Pending(2), true)
		before := pairText(x.s.All())
		x.run(2, c.want)
		x.has(before)
		is(t, "Pending", x.s.Pending(2), false)
		x.run(2, "bad-state")
		x.do(2, plainly(txn.Commit), "ok")
		x.has(c.then)
	}
}

// An answer by Run has what the transaction wrote itself ahead of it.
func TestRunSeesOwnOps(t *testing.T) {
	x := fresh(t)
	x.begin(2)
	x.do(2, put("a", "2"), "ok")
	x.do(1, put("b", "1"), "ok")
	x.do(2, scan("", "", 9), "waiting")
	x.do(1, plainly(txn.Commit), "ok")
	x.run(2, "ok a=2 b=1")
}

func TestRunRefuses(t *testing.T) {
	x := fresh(t)
	x.begin(1)
	x.run(1, "bad-state")
	x.run(0, "bad-state")
	x.run(2, "bad-state")
	x.do(1, put("a", ""), "ok")
	x.run(1, "bad-state")
	x.do(1, prepare("p"), "ok")
	x.run(1, "bad-state")
	x.do(1, plainly(txn.Commit), "ok")
	x.run(1, "bad-state")
}

func TestTimedOut(t *testing.T) {
	x := fresh(t)
	x.begin(1)
	x.do(1, put("a", "1"), "ok")
	two, three := x.beginFor(5, 1000), x.beginFor(6, 1000)
	x.do(two, put("a", "2"), "waiting")
	x.do(three, get("a"), "waiting")
	x.tick(4, "ok")
	x.run(two, "waiting")
	x.tick(5, "ok")
	is(t, "Pending", x.s.Pending(two), true)
	ids(t, "Waits of a late one", x.s.Waits(two))
	ids(t, "Waits of the other", x.s.Waits(three), 1)
	// Who is late isn't granted any more.
	x.do(1, plainly(txn.Commit), "ok")
	x.run(two, "timed-out")
	x.run(two, "bad-state")
	x.run(three, "value 1")
	// Nothing was done, and no lock is had.
	x.do(two, get("a"), "value 1")
	x.do(three, plainly(txn.Commit), "ok")
	x.do(two, plainly(txn.Commit), "ok")
	x.has("a=1")
}

// A request waits from when it is made on.
func TestWaitsFromNowOn(t *testing.T) {
	x := fresh(t)
	x.begin(1)
	x.do(1, put("a", "1"), "ok")
	id := x.beginFor(3, 1000)
	x.tick(10, "ok")
	x.do(id, get("a"), "waiting")
	x.tick(12, "ok")
	x.run(id, "waiting")
	x.tick(13, "ok")
	x.run(id, "timed-out")
	x.do(id, get("a"), "waiting")
	x.tick(15, "ok")
	x.run(id, "waiting")
	x.tick(99, "ok")
	x.run(id, "timed-out")
	// Who was granted in time isn't late, however long it takes its time.
	x.do(id, get("a"), "waiting")
	x.tick(101, "ok")
	x.do(1, plainly(txn.Commit), "ok")
	x.tick(500, "ok")
	x.run(id, "value 1")
}

// Who is late is out of the way of those behind it.
func TestLateGivesWay(t *testing.T) {
	x := fresh(t)
	x.begin(1)
	x.do(1, get("a"), "not-found")
	two, three := x.beginFor(5, 1000), x.beginFor(5, 1000)
	x.tick(1, "ok")
	x.do(two, put("a", ""), "waiting")
	x.tick(2, "ok")
	x.do(three, get("a"), "waiting")
	x.tick(6, "ok")
	x.run(three, "not-found")
	x.run(two, "timed-out")
}

func TestLockLimits(t *testing.T) {
	x := newStage(t, api.MaxDisk, 0, txn.Config{Locks: 4, Each: 2})
	x.begin(4)
	x.do(1, get("a"), "not-found")
	x.do(1, get("b"), "not-found")
	x.refuses(1, get("c"), "lock-limit")
	x.refuses(1, put("a", ""), "lock-limit")
	x.refuses(1, scan("a", "b", 1), "lock-limit")
	x.do(1, get("a"), "not-found")
	x.do(1, scan("a", "a\x00", 1), "ok")
	// What needs no lock goes on.
	x.do(1, plainly(txn.Save), "ok")
	x.do(2, get("c"), "not-found")
	x.do(3, put("c", ""), "waiting")
	// The request counts.
	x.refuses(4, get("d"), "lock-limit")
	x.refuses(2, get("d"), "lock-limit")
	is(t, "Pending", x.s.Pending(4), false)
	x.do(2, plainly(txn.Commit), "ok")
	x.do(4, get("d"), "not-found")
	x.refuses(4, get("e"), "lock-limit")
	x.run(3, "ok")
	x.do(1, plainly(txn.Commit), "ok")
	x.do(4, get("e"), "not-found")
}

func TestTheLaterOneDies(t *testing.T) {
	x := fresh(t)
	x.begin(3)
	x.do(1, put("a", "1"), "ok")
	x.do(2, put("b", "2"), "ok")
	x.do(2, put("c", "3"), "ok")
	x.do(3, get("c"), "waiting")
	x.do(2, get("a"), "waiting")
	// It is the later one that dies, though it didn't close the ring.
	x.do(1, get("b"), "waiting")
	is(t, "Pending of 1", x.s.Pending(1), true)
	is(t, "Pending of 2", x.s.Pending(2), false)
	ids(t, "Waits of 1", x.s.Waits(1))
	ids(t, "Waits of 2", x.s.Waits(2))
	ids(t, "Known", x.s.Known(), 1, 3)
	x.do(1, get("b"), "busy")
	x.run(1, "not-found")
	x.run(3, "not-found")
	x.run(2, "deadlock")
	x.run(2, "bad-state")
	x.do(2, get("b"), "bad-state")
	x.do(1, plainly(txn.Commit), "ok")
	x.has("a=1")
}

// Who is dead is told so once, by whatever it asks.
func TestDeadIsToldOnce(t *testing.T) {
	for kind := range 15 {
		x := fresh(t)
		x.begin(2)
		x.do(1, put("a", "1"), "ok")
		x.do(2, put("b", "2"), "ok")
		x.do(2, get("a"), "waiting")
		x.do(1, get("b"), "waiting")
		x.do(2, txn.Request{Kind: byte(kind), Key: []byte("b"), To: []byte("c"), Name: []byte("p")}, "deadlock")
		x.do(2, txn.Request{Kind: byte(kind), Key: []byte("b"), To: []byte("c"), Name: []byte("p")}, "bad-state")
		x.run(2, "bad-state")
		x.has("")
		is(t, "Held", heldText(x.s), "")
	}
}

// Who is told Deadlock at once is known no more, and what it had is free.
func TestDeadlockAtOnce(t *testing.T) {
	x := fresh(t)
	x.begin(3)
	x.do(1, put("a", "1"), "ok")
	x.do(2, put("b", "2"), "ok")
	x.do(3, get("b"), "waiting")
	x.do(1, get("b"), "waiting")
	x.do(2, put("a", "3"), "deadlock")
	ids(t, "Known", x.s.Known(), 1, 3)
	is(t, "Pending", x.s.Pending(2), false)
	x.run(2, "bad-state")
	x.run(3, "not-found")
	x.run(1, "not-found")
	x.do(1, plainly(txn.Commit), "ok")
	x.has("a=1")
}

func TestRingOfThree(t *testing.T) {
	for closes := range uint64(3) {
		x := fresh(t)
		x.begin(3)
		keys := []string{"a", "b", "c"}
		for i, k := range keys {
			x.do(uint64(i+1), put(k, "v"), "ok")
		}
		// The last of these closes the ring; 3 dies, whoever it is.
		for i := range uint64(3) {
			who := (closes + 1 + i) % 3
			want := "waiting"
			if i == 2 && who == 2 {
				want = "deadlock"
			}
			x.do(who+1, get(keys[(who+1)%3]), want)
		}
		ids(t, "Known", x.s.Known(), 1, 2)
		x.run(2, "not-found")
		x.run(1, "waiting")
		x.do(2, plainly(txn.Rollback), "ok")
		x.run(1, "not-found")
	}
}

// Two that read and both want to write.
func TestRingOfUpgrades(t *testing.T) {
	x := fresh(t)
	x.begin(2)
	x.do(1, get("a"), "not-found")
	x.do(2, get("a"), "not-found")
	x.do(2, put("a", "2"), "waiting")
	x.do(1, put("a", "1"), "waiting")
	ids(t, "Known", x.s.Known(), 1)
	x.run(1, "ok")
	x.do(2, get("a"), "deadlock")
}

// One request may close several rings: of each the latest dies.
func TestSeveralRings(t *testing.T) {
	x := fresh(t)
	x.begin(4)
	x.do(1, put("a", "1"), "ok")
	for id := uint64(2); id <= 4; id++ {
		x.do(id, get("k"), "not-found")
	}
	x.do(2, get("a"), "waiting")
	x.do(4, get("a"), "waiting")
	x.do(1, put("k", "1"), "waiting")
	ids(t, "Known", x.s.Known(), 1, 3)
	ids(t, "Waits", x.s.Waits(1), 3)
	x.run(1, "waiting")
	x.run(2, "deadlock")
	x.do(4, get("a"), "deadlock")
	x.do(3, plainly(txn.Commit), "ok")
	x.run(1, "ok")
}

// Who dies itself leaves the rings behind that went through it.
func TestItselfAheadOfOthers(t *testing.T) {
	x := fresh(t)
	x.begin(3)
	x.do(2, put("b", ""), "ok")
	x.do(1, get("k"), "not-found")
	x.do(3, get("k"), "not-found")
	x.do(1, get("b"), "waiting")
	x.do(3, get("b"), "waiting")
	// The ring 2 1 is told ahead of the ring 2 3: so 3 lives.
	x.do(2, put("k", ""), "deadlock")
	ids(t, "Known", x.s.Known(), 1, 3)
	x.run(1, "not-found")
	x.run(3, "not-found")
}

// A shorter ring goes first, even if the one that is told Deadlock dies in a longer one.
func TestShorterRingFirst(t *testing.T) {
	x := fresh(t)
	x.begin(4)
	x.do(3, put("c", ""), "ok")
	x.do(2, put("b", ""), "ok")
	x.do(1, get("k"), "not-found")
	x.do(4, get("k"), "not-found")
	x.do(4, get("c"), "waiting") // 4 waits for 3
	x.do(2, get("c"), "waiting") // 2 for 3
	x.do(1, get("b"), "waiting") // 1 for 2
	x.do(3, put("k", ""), "deadlock")
	ids(t, "Known", x.s.Known(), 1, 2)
	x.do(4, get("k"), "deadlock")
	x.do(3, get("k"), "bad-state")
	x.run(2, "not-found")
}

// Who is prepared waits for nobody: so it is never the one that dies.
func TestPreparedDoesNotDie(t *testing.T) {
	x := fresh(t)
	x.begin(2)
	x.do(2, put("a", "2"), "ok")
	x.do(1, put("b", "1"), "ok")
	x.do(2, prepare("p"), "ok")
	x.do(1, get("a"), "waiting")
	ids(t, "Known", x.s.Known(), 1, 2)
	x.do(2, plainly(txn.Commit), "ok")
	x.run(1, "value 2")
}
