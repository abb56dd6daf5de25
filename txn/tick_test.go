package txn_test

import (
	"fmt"
	"math"
	"testing"

	"bartizan/api"
	"bartizan/txn"
)

func TestTick(t *testing.T) {
	x := fresh(t)
	x.tick(0, "bad-state")
	is(t, "Now", x.s.Now(), 0)
	x.tick(1, "ok")
	x.tick(1, "bad-state")
	x.tick(5, "ok")
	x.tick(4, "bad-state")
	x.tick(5, "bad-state")
	x.tick(0, "bad-state")
	is(t, "Now", x.s.Now(), 5)
	x.tick(1<<40, "ok")
	x.tick(1<<40+1, "ok")
	is(t, "Now", x.s.Now(), 1<<40+1)
}

// A tick that is refused changes nothing, even if it would be late for somebody.
func TestTickRefused(t *testing.T) {
	x := fresh(t)
	x.tick(9, "ok")
	x.begin(1)
	x.do(1, put("a", ""), "ok")
	id := x.beginFor(1, 1)
	x.do(id, get("a"), "waiting")
	before := told(x.s)
	x.tick(9, "bad-state")
	x.tick(8, "bad-state")
	is(t, "told", told(x.s), before)
	x.run(id, "waiting")
}

func TestExpired(t *testing.T) {
	x := fresh(t)
	x.tick(10, "ok")
	one, two, three := x.beginFor(50, 5), x.beginFor(50, 6), x.beginFor(50, 99)
	x.do(one, put("a", "1"), "ok")
	x.do(two, put("b", "2"), "ok")
	x.do(three, get("a"), "waiting")
	x.tick(14, "ok")
	ids(t, "Known", x.s.Known(), one, two, three)
	x.tick(15, "ok")
	ids(t, "Known", x.s.Known(), two, three)
	// Its ops are forgotten, its lock is released.
	x.run(three, "not-found")
	x.has("")
	x.do(one, plainly(txn.Commit), "expired")
	x.do(one, plainly(txn.Commit), "bad-state")
	x.do(three, get("b"), "waiting")
	x.tick(1000, "ok")
	ids(t, "Known", x.s.Known())
	is(t, "Pending", x.s.Pending(three), false)
	x.run(two, "expired")
	x.run(two, "bad-state")
	x.run(three, "expired")
	x.do(three, get("b"), "bad-state")
}

// Whatever is pending goes with who dies.
func TestExpiredWhilePending(t *testing.T) {
	x := fresh(t)
	x.begin(1)
	x.do(1, put("a", "1"), "ok")
	waits, late, granted := x.beginFor(50, 20), x.beginFor(5, 20), x.beginFor(50, 20)
	x.do(waits, put("a", ""), "waiting")
	x.do(late, put("a", ""), "waiting")
	x.do(1, put("b", ""), "ok")
	x.do(granted, put("c", ""), "ok")
	other := x.beginFor(50, 500)
	x.do(other, get("c"), "waiting")
	last := x.beginFor(50, 500)
	x.do(last, get("a"), "waiting")
	x.tick(19, "ok")
	ids(t, "Waits", x.s.Waits(last), 1, waits)
	x.tick(20, "ok")
	ids(t, "Waits", x.s.Waits(last), 1)
	ids(t, "Known", x.s.Known(), 1, other, last)
	for _, id := range []uint64{waits, late, granted} {
		is(t, "Pending", x.s.Pending(id), false)
		ids(t, "Waits", x.s.Waits(id))
	}
	x.run(other, "not-found")
	x.run(waits, "expired")
	x.do(late, get("a"), "expired")
	x.do(granted, get("a"), "expired")
	x.do(1, plainly(txn.Commit), "ok")
	x.run(last, "value 1")
}

// Who has its lock but didn't take it yet gives it back when it dies.
func TestExpiredWhenGranted(t *testing.T) {
	x := fresh(t)
	x.begin(1)
	x.do(1, put("a", "1"), "ok")
	two, three := x.beginFor(50, 20), x.beginFor(50, 90)
	x.do(two, put("a", "2"), "waiting")
	x.do(three, get("a"), "waiting")
	x.do(1, plainly(txn.Commit), "ok")
	x.run(three, "waiting")
	x.tick(20, "ok")
	x.run(three, "value 1")
	x.run(two, "expired")
}

// First requests are late; only then those die for whom they waited.
func TestLateAheadOfExpired(t *testing.T) {
	x := fresh(t)
	one := x.beginFor(5, 5)
	two, three := x.beginFor(5, 50), x.beginFor(6, 50)
	x.do(one, put("a", ""), "ok")
	x.do(two, put("a", ""), "waiting")
	x.do(three, put("a", ""), "waiting")
	x.tick(5, "ok")
	x.run(two, "timed-out")
	x.run(three, "ok")
	x.run(one, "expired")
}

// Who is prepared doesn't end.
func TestPreparedDoesNotExpire(t *testing.T) {
	x := fresh(t)
	id := x.beginFor(1, 1)
	x.do(id, put("a", "1"), "ok")
	x.do(id, prepare("p"), "ok")
	x.tick(1, "ok")
	x.tick(api.MaxTicks*8, "ok")
	ids(t, "Known", x.s.Known(), id)
	x.open()
	x.tick(api.MaxTicks*9, "ok")
	ids(t, "Known", x.s.Known(), 1)
	x.do(1, plainly(txn.Commit), "ok")
	x.has("a=1")
}

// The longest times, to the tick.
func TestLongestTimes(t *testing.T) {
	x := fresh(t)
	x.tick(3, "ok")
	one, two := x.beginFor(1, api.MaxTicks), x.beginFor(api.MaxTicks-1, api.MaxTicks)
	x.do(one, put("a", ""), "ok")
	x.do(two, put("a", ""), "waiting")
	x.tick(api.MaxTicks+1, "ok")
	x.run(two, "waiting")
	x.tick(api.MaxTicks+2, "ok")
	x.run(two, "timed-out")
	x.run(one, "bad-state")
	x.tick(api.MaxTicks+3, "ok")
	x.run(two, "expired")
	x.run(one, "expired")
}

// Ticks go on up to the greatest number; what would end above it doesn't.
func TestGreatestTicks(t *testing.T) {
	x := fresh(t)
	x.tick(math.MaxUint64-10, "ok")
	one := x.beginFor(1, 11)
	x.do(one, put("a", "1"), "ok")
	soon, later, longest := x.beginFor(10, 11), x.beginFor(11, api.MaxTicks), x.beginFor(api.MaxTicks, api.MaxTicks)
	dies := x.beginFor(10, 10)
	for _, id := range []uint64{soon, later, longest, dies} {
		x.do(id, get("a"), "waiting")
	}
	x.tick(math.MaxUint64-1, "ok")
	for _, id := range []uint64{soon, later, longest, dies} {
		x.run(id, "waiting")
	}
	x.tick(math.MaxUint64, "ok")
	is(t, "Now", x.s.Now(), math.MaxUint64)
	x.run(soon, "timed-out")
	x.run(dies, "expired")
	x.run(later, "waiting")
	x.run(longest, "waiting")
	ids(t, "Known", x.s.Known(), one, soon, later, longest)
	// No tick is above; but transactions go on.
	x.tick(math.MaxUint64, "bad-state")
	x.tick(0, "bad-state")
	last := x.beginFor(1, 1)
	x.do(last, put("a", "2"), "waiting")
	x.run(last, "waiting")
	x.do(one, plainly(txn.Commit), "ok")
	x.run(longest, "value 1")
	x.run(later, "value 1")
	x.do(longest, plainly(txn.Commit), "ok")
	x.do(later, plainly(txn.Commit), "ok")
	x.run(last, "ok")
}

func TestFlushAndCompact(t *testing.T) {
	x := fresh(t)
	is(t, "Flush of nothing", word(x.s.Flush()), "bad-state")
	for _, level := range []int{-1, 0, 1, 2, 3, math.MaxInt, math.MinInt} {
		is(t, fmt.Sprint("Compact of ", level), word(x.s.Compact(level)), "bad-state")
	}
	x.begin(3)
	x.do(1, put("a", "1"), "ok")
	is(t, "Flush of what isn't committed", word(x.s.Flush()), "bad-state")
	x.do(2, put("b", "2"), "ok")
	x.do(2, prepare("p"), "ok")
	is(t, "Flush of what is prepared", word(x.s.Flush()), "bad-state")
	x.write(put("c", "3"), put("d", "4"))
	x.do(3, get("a"), "waiting")
	before := told(x.s)
	same := func(what string, answer api.Answer, want string) {
		t.Helper()
		is(t, what, word(answer), want)
		is(t, "told behind "+what, told(x.s), before)
	}
	same("Flush", x.s.Flush(), "ok")
	same("Flush", x.s.Flush(), "bad-state")
	same("Compact(1)", x.s.Compact(1), "bad-state")
	same("Compact(0)", x.s.Compact(0), "ok")
	same("Compact(0)", x.s.Compact(0), "bad-state")
	same("Compact(1)", x.s.Compact(1), "ok")
	same("Compact(1)", x.s.Compact(1), "bad-state")
	same("Compact(2)", x.s.Compact(2), "bad-state")
	x.do(1, plainly(txn.Commit), "ok")
	x.run(3, "value 1")
	x.do(2, plainly(txn.Commit), "ok")
	x.has("a=1 b=2 c=3 d=4")
	x.open()
	x.has("a=1 b=2 c=3 d=4")
}

func TestFlushStalled(t *testing.T) {
	x := fresh(t)
	for i := range api.Lines {
		x.write(put(fmt.Sprintf("k%03d", i), "v"))
		is(t, "Flush", word(x.s.Flush()), "ok")
		is(t, "Compact", word(x.s.Compact(0)), "ok")
	}
	x.write(put("k", "v"))
	before := told(x.s)
	is(t, "Flush", word(x.s.Flush()), "stalled")
	is(t, "told", told(x.s), before)
}
