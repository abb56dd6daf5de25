package txn_test

import (
	"bytes"
	"testing"

	"bartizan/api"
	"bartizan/txn"
)

const spare = 16

// roomy copies p in front of spare room whose bytes are known.
func roomy(p []byte) []byte {
	q := bytes.Repeat([]byte{0xa5}, len(p)+spare)
	copy(q, p)
	return q[:len(p)]
}

// untouched tells whether q, which roomy made of p, is as it was.
func untouched(q, p []byte) bool {
	return bytes.Equal(q[:len(p)+spare], roomy(p)[:len(p)+spare])
}

// spoil writes over bytes and their spare room.
func spoil(l ...[]byte) {
	for _, p := range l {
		p = p[:cap(p)]
		for i := range p {
			p[i] = 0x5a
		}
	}
}

// doRoomy makes the request by memory that is written over behind the call.
func (x *stage) doRoomy(id uint64, q txn.Request, want string) {
	x.t.Helper()
	r := q
	r.Key, r.Value, r.To, r.Name = roomy(q.Key), roomy(q.Value), roomy(q.To), roomy(q.Name)
	x.do(id, r, want)
	if !untouched(r.Key, q.Key) || !untouched(r.Value, q.Value) || !untouched(r.To, q.To) || !untouched(r.Name, q.Name) {
		x.t.Errorf("%s has become %s", requestText(q), requestText(r))
	}
	spoil(r.Key, r.Value, r.To, r.Name)
}

func TestMemoryOfWhatIsHandedIn(t *testing.T) {
	x := fresh(t)
	x.begin(2)
	x.doRoomy(1, put("a", "1"), "ok")
	x.doRoomy(1, put("b", "2"), "ok")
	x.doRoomy(1, put("d", "4"), "ok")
	x.doRoomy(1, del("b"), "ok")
	x.doRoomy(1, span("c", "e"), "ok")
	x.doRoomy(1, put("f", "6"), "ok")
	x.doRoomy(1, get("a"), "value 1")
	x.doRoomy(1, claim("b"), "not-found")
	x.doRoomy(1, scan("a", "z", 9), "ok a=1 f=6")
	x.doRoomy(2, put("a", "7"), "waiting")
	x.doRoomy(1, prepare("p"), "ok")
	is(t, "Held", heldText(x.s), "p(2:a:1,2:b:2,2:d:4,1:b:,3:c:e,2:f:6)")
	name := roomy([]byte("p"))
	is(t, "Decide", word(x.s.Decide(name, true)), "ok")
	is(t, "the name is as it was", untouched(name, []byte("p")), true)
	spoil(name)
	x.run(2, "ok")
	x.doRoomy(2, get("a"), "value 7")
	x.doRoomy(2, plainly(txn.Commit), "ok")
	x.has("a=7 f=6")
}

// What is pending is what was asked for, whatever becomes of the caller's memory.
func TestMemoryOfWhatIsPending(t *testing.T) {
	for _, c := range []struct {
		q    txn.Request
		want string
	}{
		{get("a"), "value 1"}, {claim("a"), "value 1"}, {put("a", "2"), "ok"}, {del("a"), "ok"},
		{span("a", "b"), "ok"}, {scan("a", "b", 5), "ok a=1"}, {backScan("", "", 1), "ok c=1"},
	} {
		x := fresh(t)
		x.begin(2)
		x.do(1, put("a", "1"), "ok")
		x.do(1, put("c", "1"), "ok")
		x.doRoomy(2, c.q, "waiting")
		ids(t, "Waits", x.s.Waits(2), 1)
		x.do(1, plainly(txn.Commit), "ok")
		x.run(2, c.want)
		x.do(2, plainly(txn.Commit), "ok")
		switch c.q.Kind {
		case txn.Put:
			x.has("a=2 c=1")
		case txn.Delete, txn.Range:
			x.has("c=1")
		default:
			x.has("a=1 c=1")
		}
	}
}

// spoilReply writes over all that a reply has.
func spoilReply(r txn.Reply) {
	spoil(r.Value)
	spoilPairs(r.Pairs)
}

// spoilPairs writes over pairs, one text at a time: none may be in another.
func spoilPairs(l []api.Pair) {
	for _, p := range l[:cap(l)] {
		spoil(p.Key, p.Value)
	}
	clear(l[:cap(l)])
}

func TestMemoryOfAnswers(t *testing.T) {
	x := fresh(t)
	x.write(put("a", "1"), put("b", "2"))
	is(t, "Flush", word(x.s.Flush()), "ok")
	x.write(put("c", "3"))
	x.begin(2)
	x.do(3, put("d", "4"), "ok")
	x.do(3, put("a", "5"), "ok")
	for _, q := range []txn.Request{get("a"), get("b"), get("c"), get("d"), claim("d"), scan("", "", 9), backScan("", "", 2), scan("", "", 1)} {
		first, second := x.s.Do(3, q), x.s.Do(3, q)
		want := replyText(first)
		spoilReply(first)
		is(t, "the second answer", replyText(second), want)
		spoilReply(second)
		x.do(3, q, want)
	}
	x.do(4, get("e"), "not-found")
	x.do(3, put("e", "6"), "waiting")
	spoil64(x.s.Waits(3), x.s.Known())
	ids(t, "Waits", x.s.Waits(3), 4)
	ids(t, "Known", x.s.Known(), 3, 4)
	x.do(4, plainly(txn.Commit), "ok")
	x.run(3, "ok")
	x.do(3, prepare("p"), "ok")
	before := told(x.s)
	for _, h := range x.s.Held() {
		for _, o := range h.Ops {
			spoil(o.Key, o.Value)
		}
		clear(h.Ops[:cap(h.Ops)])
		spoil(h.Name)
	}
	spoilPairs(x.s.All())
	is(t, "told", told(x.s), before)
	x.decide("p", true, "ok")
	x.has("a=5 b=2 c=3 d=4 e=6")
}

func spoil64(l ...[]uint64) {
	for _, p := range l {
		clear(p[:cap(p)])
	}
}

// Texts of one answer don't share memory.
func TestMemoryOfOneAnswer(t *testing.T) {
	x := fresh(t)
	x.write(put("a", "1"), put("b", "2"))
	x.begin(1)
	x.do(2, put("c", "3"), "ok")
	x.do(2, put("d", "4"), "ok")
	l := x.s.Do(2, scan("", "", 9)).Pairs
	for i := range l {
		spoil(l[i].Key)
		is(t, "the value", string(l[i].Value), string(rune('1'+i)))
		spoil(l[i].Value)
	}
	is(t, "the keys", pairText(l), "Z=Z Z=Z Z=Z Z=Z")
}

// Two stores on two disks have nothing in common.
func TestStoresAreApart(t *testing.T) {
	x, y := fresh(t), fresh(t)
	before := told(y.s)
	x.begin(2)
	x.do(1, put("a", "1"), "ok")
	x.do(1, prepare("p"), "ok")
	x.do(2, get("a"), "waiting")
	x.write(put("b", "2"))
	x.tick(9, "ok")
	ok(t, x.d.Arm(1))
	x.decide("p", true, "gone")
	is(t, "told", told(y.s), before)
	is(t, "Up", y.s.Up(), true)
	is(t, "the first number", y.beginFor(1, 1), 1)
	y.do(1, put("a", "y"), "ok")
}
