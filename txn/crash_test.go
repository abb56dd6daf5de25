package txn_test

import (
	"maps"
	"math/rand"
	"slices"
	"testing"

	"bartizan/api"
	"bartizan/txn"
)

func sorted(m map[string]uint64) []string {
	return slices.Sorted(maps.Keys(m))
}

// copy answers the same history, apart.
func (h *history) copy() *history {
	next := &history{h.t, h.last, map[uint64][]deed{}, maps.Clone(h.asked), maps.Clone(h.names), maps.Clone(h.serial)}
	for id, l := range h.deeds {
		next.deeds[id] = slices.Clone(l)
	}
	return next
}

// crash lets the power come back behind a step that was answered Gone, and
// answers what has happened: what was to happen, or nothing.
func crash(t *testing.T, x *stage, h *history, a act, keep []int, torn byte) *history {
	t.Helper()
	ok(t, x.d.Crash(keep, torn))
	x.open()
	found := lasting(x.s)
	x.open()
	is(t, "opened twice", lasting(x.s), found)
	without, with := h.copy(), h.copy()
	with.add(a, "ok")
	next := without
	if found != without.lasting() {
		next = with
	}
	if found != next.lasting() {
		t.Fatalf("behind %s it is %s, want %s or %s", a, found, without.lasting(), with.lasting())
	}
	next.reopen()
	takenUp(t, x, next)
	return next
}

// takenUp fails unless just those are known that are prepared, with their locks.
func takenUp(t *testing.T, x *stage, h *history) {
	t.Helper()
	is(t, "how many are known", len(x.s.Known()), len(h.names))
	is(t, "Now", x.s.Now(), 0)
	is(t, "Up", x.s.Up(), true)
	for _, name := range sorted(h.names) {
		is(t, "is known", slices.Contains(x.s.Known(), h.names[name]), true)
		for _, o := range h.ops(h.names[name]) {
			if !isLocked(x, o.Key, h.names[name]) {
				t.Fatalf("%q of %s isn't locked", o.Key, name)
			}
		}
	}
}

// isLocked tells whether who would read the key has to wait for that transaction.
// It looks at a store that is opened for it: so nothing comes of it.
func isLocked(x *stage, key []byte, by uint64) bool {
	s, err := txn.Open(x.d, wide())
	if err != api.OK {
		return false
	}
	id, _ := s.Begin(1, 1)
	s.Do(id, txn.Request{Kind: txn.Get, Key: key})
	who := s.Waits(id)
	x.open()
	return slices.Contains(who, by)
}

// script is a run in which everything lasting happens.
func script() []act {
	do := func(id uint64, q txn.Request) act { return act{kind: "do", id: id, q: q} }
	begin := act{kind: "begin", n: 5, life: 500}
	return []act{
		begin, begin, begin, begin, begin,
		do(1, put("a", "1")), do(1, put("b", "1")), do(1, plainly(txn.Commit)),
		do(2, get("b")), do(2, put("c", "2")), do(2, plainly(txn.Save)), do(2, del("b")), do(2, plainly(txn.Back)), do(2, prepare("p")),
		{kind: "flush"},
		do(3, put("d", "3")), do(3, span("a", "b")), do(3, prepare("q")),
		{kind: "decide", q: prepare("p"), yes: true},
		do(4, put("e", "4")), do(4, plainly(txn.Rollback)),
		do(3, plainly(txn.Commit)),
		{kind: "flush"},
		{kind: "compact", n: 0},
		do(5, put("f", "5")), do(5, prepare("r")),
		{kind: "decide", q: prepare("r")},
		{kind: "open"},
		begin, do(1, scan("", "", 9)), do(1, span("b", "d")), do(1, plainly(txn.Commit)),
		begin, do(2, put("g", "2")), do(2, prepare("s")), do(2, plainly(txn.Rollback)),
		{kind: "compact", n: 1},
		begin, do(3, put("h", "3")), do(3, plainly(txn.Commit)),
		{kind: "open"},
	}
}

// The power goes at each change of the script, and what isn't synced is kept in each of some ways.
func TestPowerGoesAtEveryChange(t *testing.T) {
	whole := fresh(t)
	start := whole.d.Changes()
	h := newHistory(t)
	for _, a := range script() {
		got := a.do(whole)
		h.add(a, got)
		h.check(whole.s)
	}
	is(t, "the end", lasting(whole.s), "d=3 h=3|")
	for n := 1; n <= whole.d.Changes()-start; n++ {
		for _, keep := range [][]int{nil, {1}, {9}, {1 << 20, 1 << 20, 1 << 20}} {
			powerGoes(t, n, keep)
		}
	}
}

// powerGoes runs the script up to where the power goes, at the n-th change.
func powerGoes(t *testing.T, n int, keep []int) {
	t.Helper()
	x := fresh(t)
	h := newHistory(t)
	ok(t, x.d.Arm(n))
	for _, a := range script() {
		got := a.do(x)
		if got == "gone" {
			h = crash(t, x, h, a, keep, 1)
			break
		}
		h.add(a, got)
	}
	// What is found goes on.
	for _, name := range sorted(h.names) {
		x.decide(name, true, "ok")
		h.end(h.names[name], true)
	}
	h.check(x.s)
	x.write(put("z", "1"))
	h.serial["z"] = "1"
	x.open()
	h.check(x.s)
}

// Long runs in which the power goes now and then.
func TestRunsWithCrashes(t *testing.T) {
	crashes := 0
	for seed := range int64(150) {
		r := rand.New(rand.NewSource(seed))
		x := newStage(t, api.MaxDisk, 0, limits(r))
		h := newHistory(t)
		for step := range 300 {
			if r.Intn(20) == 0 {
				ok(t, x.d.Arm(r.Intn(12)))
			}
			a := someAct(r, h.last)
			got := a.do(x)
			if got == "gone" {
				crashes++
				h = crash(t, x, h, a, r.Perm(20), byte(r.Intn(256)))
				continue
			}
			if r.Intn(60) == 0 {
				h.add(a, got)
				h = crash(t, x, h, act{}, r.Perm(20), 1)
				continue
			}
			h.add(a, got)
			h.check(x.s)
			nobodyGoesRound(t, x.s)
			if t.Failed() {
				t.Fatalf("run %d, step %d: %s", seed, step, a)
			}
		}
	}
	if crashes < 100 {
		t.Errorf("only %d crashes", crashes)
	}
}
