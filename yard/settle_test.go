package yard_test

import (
	"math"
	"strings"
	"testing"

	"bartizan/api"
	"bartizan/txn"
	"bartizan/yard"
)

// settles fails unless Settle answers that count, and notes these events.
func (x *stage) settles(most, want int, events ...string) {
	x.t.Helper()
	before := len(x.y.Events())
	is(x.t, "Settle", x.y.Settle(most), want)
	var got []string
	for _, e := range x.y.Events()[before:] {
		got = append(got, shortText(e))
	}
	is(x.t, "what Settle noted", strings.Join(got, "; "), strings.Join(events, "; "))
}

// shortText tells an event of Settle: its step must be nothing but a tick by 1, or a run.
func shortText(e yard.Event) string {
	switch stepText(e.Step) {
	case stepText(by(yard.Tick, 1)):
		return "tick " + replyText(e.Reply)
	case stepText(run(e.Step.ID)):
		return string(rune('0'+e.Step.ID)) + " " + replyText(e.Reply)
	}
	return eventText(e)
}

// waiting answers a yard in which 2 waits up to the tick 2, and 3 up to the tick 3, for 1.
func waiting(t *testing.T) *stage {
	t.Helper()
	x := fresh(t)
	x.begin(1)
	x.step(begin(2, 50), "ok")
	x.step(begin(3, 50), "ok")
	x.do(1, put("a", "1"), "ok")
	x.do(3, get("a"), "waiting")
	x.do(2, get("a"), "waiting")
	return x
}

func TestSettleWithNobodyPending(t *testing.T) {
	x := fresh(t)
	x.settles(5, 0)
	x.begin(2)
	x.do(1, put("a", "1"), "ok")
	x.do(1, prepare("p"), "ok")
	x.settles(5, 0)
	x.settles(math.MaxInt, 0)
	is(t, "Now", x.y.Store().Now(), 0)
}

func TestSettle(t *testing.T) {
	x := waiting(t)
	x.settles(10, 3,
		"tick ok", "2 waiting", "3 waiting",
		"tick ok", "2 timed-out", "3 waiting",
		"tick ok", "3 timed-out")
	is(t, "Now", x.y.Store().Now(), 3)
	x.settles(10, 0)
}

func TestSettleAtMost(t *testing.T) {
	x := waiting(t)
	for _, most := range []int{0, -1, math.MinInt} {
		x.settles(most, 0)
	}
	x.settles(1, 1, "tick ok", "2 waiting", "3 waiting")
	x.settles(2, 2, "tick ok", "2 timed-out", "3 waiting", "tick ok", "3 timed-out")
	x.settles(2, 0)
	x = waiting(t)
	is(t, "Settle", x.y.Settle(math.MaxInt), 3)
}

// Who has its lock by now, or waited too long, is pending till it is run.
func TestSettleRunsWhatIsReady(t *testing.T) {
	x := waiting(t)
	x.do(1, plainly(txn.Commit), "ok")
	x.settles(10, 1, "tick ok", "2 value 1", "3 value 1")
	x = waiting(t)
	x.step(by(yard.Tick, 7), "ok")
	x.settles(10, 1, "tick ok", "2 timed-out", "3 timed-out")
	x = waiting(t)
	x.step(by(yard.Tick, 2), "ok")
	x.do(1, plainly(txn.Commit), "ok")
	x.settles(10, 1, "tick ok", "2 timed-out", "3 value 1")
}

// Whom the tick lets die isn't pending any more: it is told so by its next request.
func TestSettleDoesntRunTheDead(t *testing.T) {
	x := fresh(t)
	x.step(begin(1, 2), "ok")
	x.step(begin(5, 1), "ok")
	x.step(begin(5, 50), "ok")
	x.do(1, put("a", "1"), "ok")
	x.do(2, get("a"), "waiting")
	x.do(3, get("a"), "waiting")
	x.settles(10, 2, "tick ok", "3 waiting", "tick ok", "3 not-found")
	x.do(2, get("a"), "expired")
	x.do(1, get("a"), "expired")
}

// With the power gone all are pending still, and nothing moves.
func TestSettleWithoutPower(t *testing.T) {
	x := waiting(t)
	x.step(by(yard.Arm, 1), "ok")
	x.step(begin(1, 1), "ok")
	x.do(4, put("b", "1"), "ok")
	x.do(4, plainly(txn.Commit), "gone")
	x.settles(0, 0)
	x.settles(2, 2, "tick gone", "2 gone", "3 gone", "tick gone", "2 gone", "3 gone")
	x.settles(1, 1, "tick gone", "2 gone", "3 gone")
	x.fails(by(yard.Reopen, 0), api.ErrDown)
	x.settles(9, 0)
	x.step(crash(0), "ok")
	x.settles(9, 0)
}

// It ends, and soon, however many rounds it may take.
func TestSettleWithoutPowerEnds(t *testing.T) {
	x := waiting(t)
	x.step(by(yard.Arm, 1), "ok")
	x.step(by(yard.Flush, 0), "bad-state")
	x.do(1, plainly(txn.Commit), "gone")
	is(t, "Settle", x.y.Settle(math.MaxInt), math.MaxInt)
	is(t, "Settle", x.y.Settle(math.MinInt), 0)
	x.step(crash(0), "ok")
	is(t, "Settle", x.y.Settle(math.MaxInt), 0)
}

// What is armed goes off at no tick.
func TestSettleWithPowerArmed(t *testing.T) {
	x := waiting(t)
	x.step(by(yard.Arm, 1), "ok")
	x.settles(10, 3,
		"tick ok", "2 waiting", "3 waiting",
		"tick ok", "2 timed-out", "3 waiting",
		"tick ok", "3 timed-out")
	x.do(1, plainly(txn.Commit), "gone")
}
