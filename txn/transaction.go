package txn

import (
	"bytes"
	"maps"
	"slices"

	"bartizan/api"
)

// transaction is one that is known: active, prepared, or dead.
type transaction struct {
	wait    uint64     // how many ticks its requests wait
	began   uint64     // the tick at which it did
	life    uint64     // how many ticks later it ends
	ops     []api.Op   // till it is prepared: then the engine has them
	saves   []int      // how many ops there were, of each savepoint
	name    []byte     // under which it is prepared; empty: it isn't
	why     api.Answer // it is dead; Fine: it isn't
	pending *Request   // nil: none is
	late    bool       // what is pending waited too long
}

func (t *transaction) isPrepared() bool {
	return len(t.name) > 0
}

func (t *transaction) isDead() bool {
	return t.why != api.Fine
}

func (t *transaction) isPending() bool {
	return t.pending != nil
}

// hasEnded tells whether an active one's end isn't above now. The end itself may
// be a greater tick than there can be.
func (t *transaction) hasEnded(now uint64) bool {
	return !t.isDead() && !t.isPrepared() && now-t.began >= t.life
}

// refusal tells why the request isn't one that the transaction may make now.
func (t *transaction) refusal(q Request) api.Answer {
	isLast := q.Kind == Commit || q.Kind == Rollback
	switch {
	case t.isPending():
		return api.Busy
	case q.isWrong() || t.isPrepared() && !isLast:
		return api.BadState
	case q.isLong() || t.isFull(q.Kind):
		return api.TooLarge
	}
	return api.Fine
}

// isFull tells whether it can have no more of what a request of that kind makes.
func (t *transaction) isFull(kind byte) bool {
	return isWrite(kind) && len(t.ops) >= api.MaxOps || kind == Save && len(t.saves) >= api.MaxOps
}

// pend keeps the request till its lock is granted, or it is late.
func (t *transaction) pend(q Request) {
	q = q.apart()
	t.pending = &q
}

// resume answers what was pending, and whether it is late: it is pending no more.
func (t *transaction) resume() (Request, bool) {
	q, late := *t.pending, t.late
	t.pending, t.late = nil, false
	return q, late
}

// note does a request that changes the transaction's ops and savepoints alone.
func (t *transaction) note(q Request) api.Answer {
	last := len(t.saves) - 1
	switch {
	case isWrite(q.Kind):
		t.ops = append(t.ops, q.op())
	case q.Kind == Save:
		t.saves = append(t.saves, len(t.ops))
	case last < 0:
		return api.NotFound
	case q.Kind == Back:
		t.ops = t.ops[:t.saves[last]]
	default:
		t.saves = t.saves[:last]
	}
	return api.Fine
}

// hold makes it a prepared one, of which the engine has the ops.
func (t *transaction) hold(name []byte) {
	*t = transaction{name: bytes.Clone(name)}
}

// transactions are those that are known. Its methods are for those of a store
// that is there: of a nil one not even an embedded part can be asked, so that
// Store looks for nil.
type transactions struct {
	known map[uint64]*transaction // by their numbers
	last  uint64                  // the greatest number that was given
}

// nobody answers transactions of which there are none.
func nobody() transactions {
	return transactions{known: map[uint64]*transaction{}}
}

// add answers the number of one more.
func (l *transactions) add(t *transaction) uint64 {
	l.last++
	l.known[l.last] = t
	return l.last
}

// find answers the transaction of that number; false: none is known.
func (l *transactions) find(id uint64) (*transaction, bool) {
	t, ok := l.known[id]
	return t, ok
}

// forget lets it be known no more.
func (l *transactions) forget(id uint64) {
	delete(l.known, id)
}

// bury lets it be dead: of what it was nothing is left but why.
func (l *transactions) bury(id uint64, why api.Answer) {
	l.known[id] = &transaction{why: why}
}

// rising answers the numbers of those that are so, rising.
func (l *transactions) rising(isSo func(*transaction) bool) []uint64 {
	var all []uint64
	for _, id := range slices.Sorted(maps.Keys(l.known)) {
		if isSo(l.known[id]) {
			all = append(all, id)
		}
	}
	return all
}

// alive answers those that aren't dead, rising.
func (l *transactions) alive() []uint64 {
	return l.rising(func(t *transaction) bool { return !t.isDead() })
}

// ended answers the active ones that are to end by now, rising.
func (l *transactions) ended(now uint64) []uint64 {
	return l.rising(func(t *transaction) bool { return t.hasEnded(now) })
}

// named answers the one that is prepared under that name; false: none is.
func (l *transactions) named(name []byte) (uint64, *transaction, bool) {
	all := l.rising(func(t *transaction) bool { return t.isPrepared() && bytes.Equal(t.name, name) })
	if len(all) == 0 {
		return 0, nil, false
	}
	return all[0], l.known[all[0]], true
}

// delay notes whose requests waited too long.
func (l *transactions) delay(late []uint64) {
	for _, id := range late {
		l.known[id].late = true
	}
}
