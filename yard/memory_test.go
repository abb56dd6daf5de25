package yard_test

import (
	"bytes"
	"testing"

	"bartizan/api"
	"bartizan/txn"
	"bartizan/yard"
)

const spare = 16

// roomy copies p in front of spare room whose bytes are known.
func roomy(p []byte) []byte {
	q := bytes.Repeat([]byte{0xa5}, len(p)+spare)
	copy(q, p)
	return q[:len(p)]
}

// untouched tells whether q, which roomy made of p, is as it was.
func untouched(q, p []byte) bool {
	return bytes.Equal(q[:len(p)+spare], roomy(p)[:len(p)+spare])
}

// spoil writes over bytes and their spare room.
func spoil(l ...[]byte) {
	for _, p := range l {
		p = p[:cap(p)]
		for i := range p {
			p[i] = 0x5a
		}
	}
}

func spoilStep(s yard.Step) {
	spoil(s.Q.Key, s.Q.Value, s.Q.To, s.Q.Name)
	clear(s.Keep[:cap(s.Keep)])
}

// spoilEvents writes over all that events have, and what is beside them.
func spoilEvents(l []yard.Event) {
	for _, e := range l[:cap(l)] {
		spoilStep(e.Step)
		spoil(e.Reply.Value)
		for _, p := range e.Reply.Pairs[:cap(e.Reply.Pairs)] {
			spoil(p.Key, p.Value)
		}
		clear(e.Reply.Pairs[:cap(e.Reply.Pairs)])
	}
	clear(l[:cap(l)])
}

// roomyStep is the step, by memory of its own in which there is room.
func roomyStep(s yard.Step) yard.Step {
	r := s
	r.Q.Key, r.Q.Value, r.Q.To, r.Q.Name = roomy(s.Q.Key), roomy(s.Q.Value), roomy(s.Q.To), roomy(s.Q.Name)
	r.Keep = append(make([]int, 0, len(s.Keep)+spare), s.Keep...)
	return r
}

// kept tells whether r, which roomyStep made of s, is as it was.
func kept(r, s yard.Step) bool {
	for _, n := range r.Keep[len(r.Keep):cap(r.Keep)] {
		if n != 0 {
			return false
		}
	}
	return stepText(r) == stepText(s) && untouched(r.Q.Key, s.Q.Key) && untouched(r.Q.Value, s.Q.Value) &&
		untouched(r.Q.To, s.Q.To) && untouched(r.Q.Name, s.Q.Name)
}

// memorySteps is steps of all kinds.
func memorySteps() []yard.Step {
	full := txn.Request{Kind: txn.Put, Key: []byte("b"), Value: []byte("2"), To: []byte("t"), Name: []byte("p")}
	return []yard.Step{
		begin(5, 50), begin(5, 50),
		do(1, put("a", "1")), do(1, full), do(1, get("a")), do(1, scan("a", "z", 9)), do(1, span("c", "d")),
		do(2, put("a", "3")), do(2, get("a")), run(2),
		do(1, plainly(txn.Commit)), run(2), do(2, claim("b")), do(2, prepare("p")),
		{Kind: yard.Flush, Q: full, Keep: []int{4}}, by(yard.Tick, 1), by(yard.Arm, 0),
		begin(5, 50), do(3, get("b")), do(3, scan("", "", 5)),
		crash(3, 1, 2), decide("p", true), {Kind: yard.Reopen, Q: full, Keep: []int{4}},
		begin(5, 50), do(1, get("a")), do(1, scan("", "", 5)), by(yard.Compact, 0),
	}
}

// What is handed in is neither changed nor kept, and answers share nothing.
func TestMemory(t *testing.T) {
	x, plain := fresh(t), fresh(t)
	for _, s := range memorySteps() {
		want, err := plain.y.Step(s)
		ok(t, err)
		r := roomyStep(s)
		e, err := x.y.Step(r)
		ok(t, err)
		is(t, "the step stays "+stepText(s), kept(r, s), true)
		spoilStep(r)
		is(t, "the event", eventText(e), eventText(want))
		spoilEvents([]yard.Event{e})
		noted := x.y.Events()
		is(t, "what was noted", eventsText(noted), eventsText(plain.y.Events()))
		spoilEvents(x.y.Events())
		is(t, "an earlier answer", eventsText(noted), eventsText(plain.y.Events()))
		is(t, "told", told(x.y.Store()), told(plain.y.Store()))
	}
	x.has("a=3 b=2|")
}

// What Settle notes shares nothing either, also where it is the same again and again.
func TestMemoryOfSettle(t *testing.T) {
	x := waiting(t)
	x.do(1, plainly(txn.Commit), "ok")
	is(t, "Settle", x.y.Settle(9), 1)
	x.do(2, put("a", "2"), "waiting")
	x.step(by(yard.Arm, 1), "ok")
	x.step(begin(1, 1), "ok")
	x.do(4, put("b", "1"), "ok")
	x.do(4, prepare("p"), "gone")
	is(t, "Settle", x.y.Settle(3), 3)
	want := eventsText(x.y.Events())
	spoilEvents(x.y.Events())
	is(t, "what was noted", eventsText(x.y.Events()), want)
	l := x.y.Events()
	for i := range l {
		before := eventsText(l[i+1:])
		spoilEvents(l[i : i+1 : i+1])
		is(t, "the events behind", eventsText(l[i+1:]), before)
	}
}

// Texts of one event don't share memory.
func TestMemoryOfOneEvent(t *testing.T) {
	x := fresh(t)
	x.begin(1)
	same := []byte("abc")
	q := txn.Request{Kind: txn.Put, Key: same, Value: same, To: same, Name: same}
	e, err := x.y.Step(do(1, q))
	ok(t, err)
	for _, l := range []yard.Event{e, x.last()} {
		spoil(l.Step.Q.Key)
		is(t, "Value", string(l.Step.Q.Value), "abc")
		spoil(l.Step.Q.Value)
		is(t, "To", string(l.Step.Q.To), "abc")
		spoil(l.Step.Q.To)
		is(t, "Name", string(l.Step.Q.Name), "abc")
	}
	is(t, "what was handed in", string(same), "abc")
	e, err = x.y.Step(do(1, scan("", "", 9)))
	ok(t, err)
	spoil(e.Reply.Pairs[0].Key)
	is(t, "the value", string(e.Reply.Pairs[0].Value), "abc")
}

// Store and Disk are the yard's own, and two yards have nothing in common.
func TestYardsAreApart(t *testing.T) {
	x, y := fresh(t), fresh(t)
	is(t, "Store", x.y.Store() == x.y.Store(), true)
	is(t, "Disk", x.y.Disk() == x.y.Disk(), true)
	disk := x.y.Disk()
	before, image := told(y.y.Store()), diskText(y.y.Disk())
	x.write("a", "1")
	x.step(by(yard.Tick, 9), "ok")
	x.step(by(yard.Arm, 1), "ok")
	x.fails(by(yard.Reopen, 0), api.ErrDown)
	x.step(crash(0), "ok")
	is(t, "the disk is the same", x.y.Disk() == disk, true)
	is(t, "told", told(y.y.Store()), before)
	is(t, "the disk", diskText(y.y.Disk()), image)
	is(t, "how many are noted", len(y.y.Events()), 0)
}
