package yard_test

import (
	"testing"

	"bartizan/txn"
	"bartizan/yard"
)

// script is steps in which everything lasting happens.
func script() []yard.Step {
	long := begin(5, 500)
	return []yard.Step{
		long, long, long, long, long,
		do(1, put("a", "1")), do(1, put("b", "1")), do(1, plainly(txn.Commit)),
		do(2, get("b")), do(2, put("c", "2")), do(2, plainly(txn.Save)), do(2, del("b")), do(2, plainly(txn.Back)), do(2, prepare("p")),
		by(yard.Flush, 0),
		do(3, put("d", "3")), do(3, span("a", "b")), do(3, prepare("q")),
		do(4, get("d")),
		decide("p", true),
		do(5, put("e", "5")), do(5, plainly(txn.Rollback)),
		do(3, plainly(txn.Commit)),
		run(4), do(4, put("e", "4")), do(4, prepare("r")),
		by(yard.Flush, 0),
		by(yard.Compact, 0),
		decide("r", false),
		by(yard.Reopen, 0),
		long, do(1, scan("", "", 9)), do(1, span("b", "d")), do(1, plainly(txn.Commit)),
		long, do(2, put("g", "2")), do(2, prepare("s")), do(2, plainly(txn.Rollback)),
		by(yard.Compact, 1),
		long, do(3, put("h", "3")), do(3, plainly(txn.Commit)),
		long, do(4, put("f", "4")), do(4, prepare("t")),
		by(yard.Reopen, 0),
	}
}

// The power goes at each change of the script, and what isn't synced is kept in each of some ways.
func TestPowerGoesAtEveryChange(t *testing.T) {
	whole := newPlay(t, wide())
	start := whole.y.Disk().Changes()
	for _, s := range script() {
		whole.take(s)
	}
	whole.has("d=3 h=3|t(2:f:4)")
	end := whole.y.Disk().Changes() - start
	for n := 1; n <= end; n++ {
		for _, keep := range [][]int{nil, {1}, {9}, {1 << 20, 1 << 20, 1 << 20}, {3, 1 << 20}} {
			powerGoes(t, n, crash(1, keep...))
		}
		if t.Failed() {
			t.Fatalf("the power goes at the change %d", n)
		}
	}
}

// powerGoes lets the script happen up to where the power goes, at the n-th
// change, and come back by that crash.
func powerGoes(t *testing.T, n int, crash yard.Step) {
	t.Helper()
	p := newPlay(t, wide())
	p.take(by(yard.Arm, n))
	for _, s := range script() {
		if p.y.Disk().On() {
			p.take(s)
		}
	}
	is(t, "On", p.y.Disk().On(), false)
	p.take(by(yard.Tick, 1))
	p.take(crash)
	found := lasting(p.y.Store())
	p.take(by(yard.Reopen, 0))
	is(t, "opened twice", lasting(p.y.Store()), found)
	// What was held is held with its locks: the watch tells who has to wait.
	id := uint64(len(p.y.Store().Known()))
	for key := 'a'; key <= 'h'; key++ {
		p.take(begin(1, 5))
		id++
		p.take(do(id, get(string(key))))
	}
	p.settle()
	// What is found goes on.
	for _, h := range p.y.Store().Held() {
		p.take(decide(string(h.Name), true))
	}
	p.take(begin(1, 9))
	p.take(do(p.story.last, put("z", "1")))
	p.take(do(p.story.last, plainly(txn.Commit)))
	p.take(by(yard.Reopen, 0))
	is(t, "z", p.story.serial["z"], "1")
}

// The commit that was under way is there wholly or not at all, whatever is kept of it.
func TestCommitUnderWay(t *testing.T) {
	found := map[string]int{}
	for keep := range 200 {
		x := fresh(t)
		x.begin(2)
		x.do(1, put("a", "1"), "ok")
		x.do(1, put("b", "1"), "ok")
		x.do(2, put("c", "1"), "ok")
		x.step(by(yard.Arm, 1), "ok")
		x.do(1, plainly(txn.Commit), "gone")
		x.do(2, plainly(txn.Commit), "gone")
		x.step(crash(keep, keep), "ok")
		found[lasting(x.y.Store())]++
	}
	if len(found) != 2 || found["|"] == 0 || found["a=1 b=1|"] == 0 {
		t.Errorf("found: %v", found)
	}
}

// So is the Prepare, and the Decide of one that is prepared.
func TestPrepareAndDecideUnderWay(t *testing.T) {
	prepared, decided := map[string]int{}, map[string]int{}
	for keep := range 200 {
		x := fresh(t)
		x.begin(1)
		x.do(1, put("a", "1"), "ok")
		x.step(by(yard.Arm, 1), "ok")
		x.do(1, prepare("p"), "gone")
		x.step(crash(keep, keep), "ok")
		prepared[lasting(x.y.Store())]++
		if len(x.y.Store().Held()) == 0 {
			continue
		}
		x.step(by(yard.Arm, 1), "ok")
		x.step(decide("p", keep%2 == 0), "gone")
		x.step(crash(1, keep/2), "ok")
		decided[lasting(x.y.Store())]++
	}
	if len(prepared) != 2 || prepared["|"] == 0 || prepared["|p(2:a:1)"] == 0 {
		t.Errorf("behind Prepare: %v", prepared)
	}
	if len(decided) != 3 || decided["|"] == 0 || decided["a=1|"] == 0 || decided["|p(2:a:1)"] == 0 {
		t.Errorf("behind Decide: %v", decided)
	}
}
