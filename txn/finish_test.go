package txn_test

import (
	"fmt"
	"strings"
	"testing"

	"bartizan/api"
	"bartizan/disk"
	"bartizan/txn"
)

func TestCommitAndRollback(t *testing.T) {
	x := fresh(t)
	x.begin(4)
	x.do(1, put("a", "1"), "ok")
	x.do(1, put("b", "1"), "ok")
	x.has("")
	x.do(1, plainly(txn.Commit), "ok")
	x.has("a=1 b=1")
	ids(t, "Known", x.s.Known(), 2, 3, 4)
	x.do(2, put("a", "2"), "ok")
	x.do(2, span("b", "c"), "ok")
	x.do(2, plainly(txn.Rollback), "ok")
	x.has("a=1 b=1")
	ids(t, "Known", x.s.Known(), 3, 4)
	x.do(3, del("a"), "ok")
	x.do(3, put("a", "3"), "ok")
	x.do(3, del("b"), "ok")
	x.do(3, plainly(txn.Commit), "ok")
	x.has("a=3")
	changes := x.d.Changes()
	x.do(4, plainly(txn.Commit), "ok")
	is(t, "changes by a commit of nothing", x.d.Changes(), changes)
	ids(t, "Known", x.s.Known())
	x.open()
	x.has("a=3")
}

func TestPrepare(t *testing.T) {
	x := fresh(t)
	x.begin(5)
	x.do(1, put("a", "1"), "ok")
	x.do(1, plainly(txn.Save), "ok")
	x.do(1, prepare("p"), "ok")
	is(t, "told", told(x.s), "[1 2 3 4 5]|p(2:a:1)||0")
	// The name is held: who wants it is as it was.
	x.do(2, put("b", "2"), "ok")
	x.refuses(2, prepare("p"), "duplicate")
	x.do(2, get("b"), "value 2")
	x.do(2, prepare("q"), "ok")
	is(t, "Held", heldText(x.s), "p(2:a:1) q(2:b:2)")
	// A name that is held no more may be taken again.
	x.do(1, plainly(txn.Commit), "ok")
	x.do(3, put("c", "3"), "ok")
	x.do(3, prepare("p"), "ok")
	x.do(2, plainly(txn.Rollback), "ok")
	x.do(4, prepare("q"), "ok")
	is(t, "told", told(x.s), "[3 4 5]|p(2:c:3) q()|a=1|0")
	x.do(4, plainly(txn.Commit), "ok")
	x.do(3, plainly(txn.Commit), "ok")
	x.do(5, prepare(strings.Repeat("\x00", api.MaxName)), "ok")
	x.do(5, plainly(txn.Rollback), "ok")
	is(t, "told", told(x.s), "[]||a=1 c=3|0")
	x.open()
	is(t, "told", told(x.s), "[]||a=1 c=3|0")
}

// A prepared one's locks are released when it is over, not before.
func TestPreparedHasItsLocks(t *testing.T) {
	for _, last := range []byte{txn.Commit, txn.Rollback} {
		x := fresh(t)
		x.write(put("a", "0"))
		x.begin(3)
		x.do(2, put("a", "1"), "ok")
		x.do(2, get("r"), "not-found")
		x.do(2, prepare("p"), "ok")
		x.do(3, get("a"), "waiting")
		x.do(4, put("r", ""), "waiting")
		x.do(2, plainly(last), "ok")
		x.run(3, "value "+map[byte]string{txn.Commit: "1", txn.Rollback: "0"}[last])
		x.run(4, "ok")
		is(t, "Held", heldText(x.s), "")
		x.do(2, plainly(last), "bad-state")
	}
}

func TestDecide(t *testing.T) {
	x := fresh(t)
	for _, commit := range []bool{true, false} {
		for _, name := range []string{"", "p", strings.Repeat("n", 99)} {
			x.decide(name, commit, "not-found")
		}
	}
	x.begin(4)
	for i, name := range []string{"p", "pp", "q"} {
		id := uint64(i + 1)
		x.do(id, put(name, "v"), "ok")
		x.do(id, prepare(name), "ok")
	}
	x.do(4, put("x", "v"), "ok")
	x.decide("ppp", true, "not-found")
	x.decide("", true, "not-found")
	x.decide("x", true, "not-found")
	x.decide("pp", true, "ok")
	x.decide("pp", true, "not-found")
	x.decide("pp", false, "not-found")
	is(t, "told", told(x.s), "[1 3 4]|p(2:p:v) q(2:q:v)|pp=v|0")
	x.do(4, get("q"), "waiting")
	x.decide("q", false, "ok")
	x.run(4, "not-found")
	x.decide("q", true, "not-found")
	x.do(2, plainly(txn.Commit), "bad-state")
	x.do(1, plainly(txn.Commit), "ok")
	x.decide("p", true, "not-found")
	x.do(4, plainly(txn.Rollback), "ok")
	is(t, "told", told(x.s), "[]||p=v pp=v|0")
}

// Who isn't prepared is found by no name, also if it was to be so, and was refused.
func TestDecideOfWhoIsNotPrepared(t *testing.T) {
	x := fresh(t)
	x.begin(2)
	x.do(1, prepare("p"), "ok")
	x.do(2, put("a", "2"), "ok")
	x.do(2, prepare("p"), "duplicate")
	x.decide("p", true, "ok")
	x.decide("p", true, "not-found")
	x.do(2, get("a"), "value 2")
	x.has("")
}

// stall makes tables till no more may be written.
func (x *stage) stall() {
	x.t.Helper()
	for i := range api.Tables {
		x.write(put(fmt.Sprint("t", i), "v"))
		is(x.t, "Flush", word(x.s.Flush()), "ok")
	}
}

func TestStalled(t *testing.T) {
	x := fresh(t)
	x.begin(4)
	x.do(1, put("a", "1"), "ok")
	x.do(2, put("b", "2"), "ok")
	x.do(2, prepare("p"), "ok")
	x.do(3, put("c", "3"), "ok")
	x.stall()
	x.refuses(1, plainly(txn.Commit), "stalled")
	x.refuses(1, prepare("q"), "stalled")
	x.refuses(1, prepare("p"), "duplicate")
	x.refuses(2, plainly(txn.Commit), "stalled")
	x.decide("p", true, "stalled")
	// Its locks and ops are as they were.
	x.do(4, get("a"), "waiting")
	x.do(1, get("a"), "value 1")
	x.do(3, plainly(txn.Rollback), "ok")
	ids(t, "Known", x.s.Known(), 1, 2, 4)
	is(t, "Compact", word(x.s.Compact(0)), "ok")
	x.do(1, plainly(txn.Commit), "ok")
	x.do(2, plainly(txn.Commit), "ok")
	x.run(4, "value 1")
	x.has("a=1 b=2 t0=v t1=v t2=v t3=v")
}

// What needs no room in the log, or not for ops, isn't stalled.
func TestNotStalled(t *testing.T) {
	x := fresh(t)
	x.begin(2)
	x.do(1, put("a", "1"), "ok")
	x.do(1, prepare("p"), "ok")
	x.stall()
	x.do(2, plainly(txn.Commit), "ok")
	x.do(1, plainly(txn.Rollback), "ok")
	ids(t, "Known", x.s.Known())
	is(t, "Held", heldText(x.s), "")
}

// The memo may be full, too.
func TestStalledByMemory(t *testing.T) {
	x := fresh(t)
	for range api.Memory / 50 {
		var l []txn.Request
		for i := range 50 {
			l = append(l, put(fmt.Sprint("k", i), "v"))
		}
		x.write(l...)
	}
	id := x.beginFor(1, 10)
	x.do(id, put("a", "1"), "ok")
	x.refuses(id, plainly(txn.Commit), "stalled")
	x.do(id, prepare("p"), "ok")
	x.refuses(id, plainly(txn.Commit), "stalled")
	x.decide("p", true, "stalled")
	is(t, "Flush", word(x.s.Flush()), "ok")
	x.decide("p", true, "ok")
}

func TestExhausted(t *testing.T) {
	x := newStage(t, api.MaxDisk, api.MaxSeq-2, wide())
	x.begin(4)
	x.do(1, put("a", "1"), "ok")
	x.do(1, put("b", "1"), "ok")
	x.do(1, plainly(txn.Save), "ok")
	x.do(1, put("c", "1"), "ok")
	x.refuses(1, plainly(txn.Commit), "exhausted")
	x.do(2, get("a"), "waiting")
	x.do(1, plainly(txn.Back), "ok")
	x.do(1, plainly(txn.Commit), "ok")
	x.run(2, "value 1")
	x.do(3, put("d", "3"), "ok")
	x.do(3, prepare("p"), "ok")
	x.refuses(3, plainly(txn.Commit), "exhausted")
	x.decide("p", true, "exhausted")
	is(t, "told", told(x.s), "[2 3 4]|p(2:d:3)|a=1 b=1|0")
	x.do(4, get("d"), "waiting")
	x.decide("p", false, "ok")
	x.run(4, "not-found")
	x.do(4, plainly(txn.Commit), "ok")
	x.has("a=1 b=1")
}

// crowd fills the disk up, but for so many bytes.
func crowd(t *testing.T, d *disk.Disk, room, left int) {
	t.Helper()
	ok(t, d.Create("crowd"), d.Append("crowd", make([]byte, room-d.Used()-left)))
}

func TestDiskFull(t *testing.T) {
	room := 4000
	x := newStage(t, room, 0, wide())
	x.write(put("z", "0"))
	x.begin(5)
	x.do(2, put("a", "1"), "ok")
	x.do(3, put("b", "2"), "ok")
	x.do(3, prepare("p"), "ok")
	x.do(4, put("c", "3"), "ok")
	crowd(t, x.d, room, 3)
	x.refuses(2, plainly(txn.Commit), "disk-full")
	x.refuses(2, prepare("q"), "disk-full")
	x.refuses(2, prepare("p"), "duplicate")
	x.refuses(3, plainly(txn.Commit), "disk-full")
	x.refuses(3, plainly(txn.Rollback), "disk-full")
	x.decide("p", true, "disk-full")
	x.decide("p", false, "disk-full")
	is(t, "Flush", word(x.s.Flush()), "disk-full")
	x.do(4, plainly(txn.Rollback), "ok")
	is(t, "told", told(x.s), "[2 3 5 6]|p(2:b:2)|z=0|0")
	x.do(5, get("a"), "waiting")
	x.do(6, get("b"), "waiting")
	x.do(2, get("a"), "value 1")
	ok(t, x.d.Delete("crowd"))
	x.do(2, plainly(txn.Commit), "ok")
	x.run(5, "value 1")
	x.decide("p", false, "ok")
	x.run(6, "not-found")
	x.has("a=1 z=0")
	is(t, "Flush", word(x.s.Flush()), "ok")
	crowd(t, x.d, room, 3)
	is(t, "Compact", word(x.s.Compact(0)), "disk-full")
	ok(t, x.d.Delete("crowd"))
	is(t, "Compact", word(x.s.Compact(0)), "ok")
	x.has("a=1 z=0")
}

// Behind the power everything is gone, and the store tells what it did.
func TestGone(t *testing.T) {
	for _, lost := range []func(x *stage){
		func(x *stage) { x.do(1, plainly(txn.Commit), "gone") },
		func(x *stage) { x.do(1, prepare("q"), "gone") },
		func(x *stage) { x.do(2, plainly(txn.Commit), "gone") },
		func(x *stage) { x.do(2, plainly(txn.Rollback), "gone") },
		func(x *stage) { x.decide("p", true, "gone") },
		func(x *stage) { x.decide("p", false, "gone") },
		func(x *stage) { is(x.t, "Flush", word(x.s.Flush()), "gone") },
		func(x *stage) { is(x.t, "Compact", word(x.s.Compact(0)), "gone") },
		func(x *stage) { ok(x.t, x.d.Crash(nil, 0)) },
	} {
		x := fresh(t)
		x.begin(5)
		x.do(1, put("a", "1"), "ok")
		x.do(2, put("b", "2"), "ok")
		x.do(2, prepare("p"), "ok")
		x.do(3, get("a"), "waiting")
		x.do(4, put("d", "4"), "ok")
		x.do(5, get("d"), "waiting")
		x.do(4, get("a"), "waiting")
		x.write(put("c", "3"))
		is(t, "Flush", word(x.s.Flush()), "ok")
		x.write(put("c", "4"))
		x.tick(7, "ok")
		before := told(x.s)
		ok(t, x.d.Arm(1))
		lost(x)
		gone := func() {
			t.Helper()
			is(t, "Up", x.s.Up(), false)
			_, answer := x.s.Begin(1, 1)
			is(t, "Begin", word(answer), "gone")
			_, answer = x.s.Begin(0, 0)
			is(t, "Begin of a wrong wait", word(answer), "gone")
			for id := range uint64(9) {
				for kind := range 15 {
					x.do(id, txn.Request{Kind: byte(kind), Key: []byte("a"), To: []byte("b"), Name: []byte("p")}, "gone")
				}
				x.run(id, "gone")
			}
			x.decide("p", true, "gone")
			x.decide("none", true, "gone")
			x.tick(8, "gone")
			x.tick(0, "gone")
			is(t, "Flush", word(x.s.Flush()), "gone")
			is(t, "Compact", word(x.s.Compact(99)), "gone")
			is(t, "told", told(x.s), before)
		}
		gone()
		ok(t, x.d.Crash(nil, 0))
		gone()
		x.open()
		is(t, "Up", x.s.Up(), true)
		x.has("c=4")
		is(t, "Held", heldText(x.s), "p(2:b:2)")
		ids(t, "Known", x.s.Known(), 1)
		is(t, "Now", x.s.Now(), 0)
	}
}

// Who is dead stays so while the store is gone, and isn't told of it.
func TestGoneAheadOfDead(t *testing.T) {
	x := fresh(t)
	x.begin(1)
	id := x.beginFor(1, 1)
	x.tick(1, "ok")
	ok(t, x.d.Crash(nil, 0))
	x.do(id, get("a"), "gone")
	x.run(id, "gone")
	ids(t, "Known", x.s.Known(), 1)
}
