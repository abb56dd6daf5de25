package yard_test

import (
	"math"
	"slices"
	"testing"

	"bartizan/api"
	"bartizan/locks"
	"bartizan/txn"
	"bartizan/yard"
)

// watch is who may touch which keys, as the answers tell it, and who has died.
type watch struct {
	t     *testing.T
	limit txn.Config
	table *locks.Table
	waits map[uint64]uint64     // how long each one's requests wait
	ends  map[uint64]uint64     // of those that are active
	dead  map[uint64]api.Answer // who is still to be told
	names map[string]uint64
	now   uint64
}

func newWatch(t *testing.T, c txn.Config) *watch {
	table, err := locks.New(c.Locks, c.Each)
	ok(t, err)
	return &watch{t: t, limit: c, table: table, waits: map[uint64]uint64{}, ends: map[uint64]uint64{}, dead: map[uint64]api.Answer{}, names: map[string]uint64{}}
}

// lockOf answers the lock that a request needs; false: none.
func lockOf(id uint64, q txn.Request) (api.Lock, bool) {
	modes := map[byte]byte{txn.Get: 1, txn.Scan: 1, txn.Claim: 2, txn.Put: 3, txn.Delete: 3, txn.Range: 3}
	to := q.To
	if q.Kind != txn.Scan && q.Kind != txn.Range {
		to = append(slices.Clone(q.Key), 0)
	}
	return api.Lock{Txn: id, From: q.Key, To: to, Mode: modes[q.Kind]}, modes[q.Kind] > 0
}

// add notes a step that was answered, and fails unless Deadlock and Expired are
// answered just where they must be (P21.4).
func (w *watch) add(e yard.Event) {
	w.t.Helper()
	id, answer := e.Step.ID, e.Reply.Answer
	if answer == api.Gone {
		return
	}
	switch e.Step.Kind {
	case yard.Begin:
		if answer == api.Fine {
			w.waits[e.ID], w.ends[e.ID] = uint64(e.Step.N), w.now+uint64(e.Step.Life)
		}
	case yard.Do, yard.Run:
		if why, ok := w.dead[id]; ok {
			is(w.t, "the answer to the dead", word(answer), word(why))
			delete(w.dead, id)
			return
		}
		if e.Step.Kind == yard.Do {
			w.do(id, e.Step.Q, answer)
		} else if answer == api.Deadlock || answer == api.Expired {
			w.t.Errorf("%d isn't dead, but told %s", id, word(answer))
		}
	case yard.Decide:
		if answer == api.Fine {
			w.over(w.names[string(e.Step.Q.Name)])
		}
	case yard.Tick:
		w.tick(w.now + uint64(min(max(e.Step.N, 1), 1000)))
	}
}

// do notes a request of one who isn't dead.
func (w *watch) do(id uint64, q txn.Request, answer api.Answer) {
	w.t.Helper()
	l, needs := lockOf(id, q)
	switch {
	case answer == api.Busy || answer == api.BadState || answer == api.TooLarge:
	case needs:
		want := w.ask(l)
		if want == api.Fine && answer <= api.NotFound {
			want = answer
		}
		is(w.t, "the answer to "+stepText(do(id, q)), word(answer), word(want))
	case answer == api.Fine && q.Kind == txn.Prepare:
		w.names[string(q.Name)] = id
		delete(w.ends, id)
	case answer == api.Fine && (q.Kind == txn.Commit || q.Kind == txn.Rollback):
		w.over(id)
	}
}

// ask asks for a lock, and lets the latest of each ring that comes of it die.
func (w *watch) ask(l api.Lock) api.Answer {
	answer := w.table.Ask(l, w.now+w.waits[l.Txn])
	for answer == api.Waiting {
		ring := w.ring(l.Txn)
		if len(ring) == 0 {
			break
		}
		latest := slices.Max(ring)
		w.over(latest)
		if latest == l.Txn {
			return api.Deadlock
		}
		w.dead[latest] = api.Deadlock
	}
	return answer
}

// ring answers the shortest ring through the transaction, of several the one
// whose members are least from the first on; none: there is none. It tries all ways.
func (w *watch) ring(id uint64) []uint64 {
	for long := 1; long <= api.MaxTxns+1; long++ {
		if way := w.way([]uint64{id}, long); way != nil {
			return way
		}
	}
	return nil
}

// way answers the first way, of so many members, that goes on from there back to its beginning.
func (w *watch) way(way []uint64, long int) []uint64 {
	for _, next := range w.table.Blockers(way[len(way)-1]) {
		if len(way) == long {
			if next == way[0] {
				return way
			}
		} else if !slices.Contains(way, next) {
			if all := w.way(append(slices.Clone(way), next), long); all != nil {
				return all
			}
		}
	}
	return nil
}

// over notes that the transaction has no locks any more.
func (w *watch) over(id uint64) {
	w.table.Release(id)
	delete(w.ends, id)
	for name, who := range w.names {
		if who == id {
			delete(w.names, name)
		}
	}
}

func (w *watch) tick(now uint64) {
	w.now = now
	w.table.Tick(now)
	for id := range uint64(1000) {
		if end, ok := w.ends[id]; ok && end <= now {
			w.over(id)
			w.dead[id] = api.Expired
		}
	}
}

// reopen notes that a store was opened anew.
func (w *watch) reopen(s *txn.Store) {
	*w = *newWatch(w.t, w.limit)
	for i, h := range s.Held() {
		id := uint64(i + 1)
		w.names[string(h.Name)] = id
		for _, o := range h.Ops {
			q := txn.Request{Kind: txn.Put, Key: o.Key}
			if o.Kind == api.Range {
				q = txn.Request{Kind: txn.Range, Key: o.Key, To: o.Value}
			}
			l, _ := lockOf(id, q)
			ok(w.t, w.table.Force(l))
		}
	}
}

// check fails unless those wait for one another that must, and none in a ring.
func (w *watch) check(s *txn.Store) {
	w.t.Helper()
	for _, id := range s.Known() {
		ids(w.t, "Waits", s.Waits(id), w.table.Blockers(id)...)
		if ring := w.ring(id); len(ring) > 0 {
			w.t.Errorf("they wait for one another: %v", ring)
		}
	}
}

// longest answers the greatest wait of any transaction.
func (w *watch) longest() int {
	longest := uint64(0)
	for _, wait := range w.waits {
		longest = max(longest, wait)
	}
	return int(longest)
}

// Two, and three, that wait for one another: the latest goes, whoever closes the ring.
func TestRings(t *testing.T) {
	x := fresh(t)
	x.begin(2)
	x.do(1, get("a"), "not-found")
	x.do(2, get("b"), "not-found")
	x.do(1, put("b", "1"), "waiting")
	x.do(2, put("a", "2"), "deadlock")
	x.do(2, get("a"), "bad-state")
	x.step(run(1), "ok")
	x.do(1, plainly(txn.Commit), "ok")
	x.has("b=1|")

	x.begin(3)
	x.do(3, put("a", "3"), "ok")
	x.do(4, put("b", "4"), "ok")
	x.do(5, put("c", "5"), "ok")
	x.do(4, get("c"), "waiting")
	x.do(5, get("a"), "waiting")
	x.do(3, get("b"), "waiting") // 5 dies, who waits for it goes on
	ids(t, "Waits", x.y.Store().Waits(3), 4)
	ids(t, "Known", x.y.Store().Known(), 3, 4)
	x.step(run(4), "not-found")
	x.step(run(5), "deadlock")
	x.step(run(5), "bad-state")
	x.do(4, plainly(txn.Commit), "ok")
	x.step(run(3), "value 4")
	x.do(3, plainly(txn.Commit), "ok")
	x.has("a=3 b=4|")
}

// One request closes two rings: of each the latest goes.
func TestTwoRingsAtOnce(t *testing.T) {
	x := fresh(t)
	x.begin(3)
	x.do(1, put("a", "1"), "ok")
	x.do(2, get("b"), "not-found")
	x.do(3, get("b"), "not-found")
	x.do(2, get("a"), "waiting")
	x.do(3, get("a"), "waiting")
	x.do(1, put("b", "1"), "waiting")
	ids(t, "Known", x.y.Store().Known(), 1)
	x.step(run(1), "ok")
	x.do(2, plainly(txn.Save), "deadlock")
	x.do(3, plainly(txn.Save), "deadlock")
	x.do(1, plainly(txn.Commit), "ok")
	x.has("a=1 b=1|")
}

// Many wait for one another, but not in a ring: nobody dies.
func TestNoRing(t *testing.T) {
	x := fresh(t)
	x.begin(5)
	for id := uint64(1); id <= 5; id++ {
		key := string(rune('a' + id))
		x.do(id, put(key, "1"), "ok")
	}
	for id := uint64(5); id > 1; id-- {
		x.do(id, scan("a", string(rune('a'+id)), 9), "waiting")
	}
	for id := uint64(1); id <= 5; id++ {
		if id > 1 {
			e, err := x.y.Step(run(id))
			ok(t, err)
			is(t, "Answer", word(e.Reply.Answer), "ok")
			is(t, "how many pairs", len(e.Reply.Pairs), int(id-1))
		}
		x.do(id, plainly(txn.Commit), "ok")
	}
	is(t, "Settle", x.y.Settle(math.MaxInt), 0)
}
