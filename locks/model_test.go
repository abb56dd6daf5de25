package locks_test

import (
	"math/rand"
	"slices"
	"testing"

	"bartizan/api"
	"bartizan/locks"
)

// universe is all texts of up to two bytes of which a run's locks begin and end, in order.
func universe() []string {
	all := []string{""}
	for _, a := range []string{"\x00", "a", "b"} {
		all = append(all, a)
		for _, b := range []string{"\x00", "a", "b"} {
			all = append(all, a+b)
		}
	}
	slices.Sort(all)
	return all
}

// item is a lock that is granted or waits, told as plainly as can be: by every key that is in it.
type item struct {
	lock   api.Lock
	keys   map[string]bool
	until  uint64
	forced bool
}

func newItem(l api.Lock) item {
	keys := map[string]bool{}
	for _, k := range universe() {
		keys[k] = k >= string(l.From) && (len(l.To) == 0 || k < string(l.To))
	}
	return item{lock: l, keys: keys}
}

// against tells whether two can't be granted beside each other.
func (a item) against(b item) bool {
	if a.lock.Txn == b.lock.Txn || !a.meets(b) {
		return false
	}
	return !slices.Contains([]string{"SS", "SU", "US"}, letter(a)+letter(b))
}

func letter(a item) string {
	return map[byte]string{shared: "S", update: "U", exclusive: "X"}[a.lock.Mode]
}

func (a item) meets(b item) bool {
	for k, in := range a.keys {
		if in && b.keys[k] {
			return true
		}
	}
	return false
}

func (a item) within(b item) bool {
	for k, in := range a.keys {
		if in && !b.keys[k] {
			return false
		}
	}
	// The universe ends, but a lock to the end goes on.
	return len(b.lock.To) == 0 || len(a.lock.To) > 0
}

// plain is a table as a list of what is granted and one of what waits.
type plain struct {
	most, each   int
	have, queued []item
}

// waitsFor answers for whom the item waits that stands at that place of the queue, each once, rising.
func (p *plain) waitsFor(a item, place int) []uint64 {
	var who []uint64
	isUpgrade := false
	for _, b := range p.have {
		if a.against(b) {
			who = append(who, b.lock.Txn)
		}
		isUpgrade = isUpgrade || b.lock.Txn == a.lock.Txn && a.meets(b)
	}
	for i, b := range p.queued {
		if i < place && !isUpgrade && a.against(b) {
			who = append(who, b.lock.Txn)
		}
	}
	slices.Sort(who)
	return slices.Compact(who)
}

func (p *plain) ask(l api.Lock, until uint64) api.Answer {
	a := newItem(l)
	a.until = until
	own := 0
	for _, b := range p.queued {
		if b.lock.Txn == l.Txn {
			return api.Busy
		}
	}
	for _, b := range p.have {
		if b.lock.Txn != l.Txn {
			continue
		}
		if a.within(b) && b.lock.Mode >= l.Mode {
			return api.Fine
		}
		own++
	}
	if own >= p.each || len(p.have)+len(p.queued) >= p.most {
		return api.LockLimit
	}
	if len(p.waitsFor(a, len(p.queued))) > 0 {
		p.queued = append(p.queued, a)
		return api.Waiting
	}
	p.have = append(p.have, a)
	return api.Fine
}

// rest answers the items that don't go, and whose did.
func rest(l []item, goes func(item) bool) ([]item, []uint64) {
	var left []item
	var gone []uint64
	for _, a := range l {
		if goes(a) {
			gone = append(gone, a.lock.Txn)
		} else {
			left = append(left, a)
		}
	}
	return left, gone
}

func (p *plain) pass() []uint64 {
	var who []uint64
	for i := 0; i < len(p.queued); {
		a := p.queued[i]
		if len(p.waitsFor(a, i)) > 0 {
			i++
			continue
		}
		p.have = append(p.have, a)
		p.queued = slices.Delete(slices.Clone(p.queued), i, i+1)
		who = append(who, a.lock.Txn)
	}
	return who
}

// ring answers the best way along the path on and back to its beginning, by trying all.
func (p *plain) ring(path []uint64) []uint64 {
	at := slices.IndexFunc(p.queued, func(a item) bool { return a.lock.Txn == path[len(path)-1] })
	if at < 0 {
		return nil
	}
	var best []uint64
	for _, to := range p.waitsFor(p.queued[at], at) {
		var way []uint64
		if to == path[0] {
			way = path
		} else if !slices.Contains(path, to) {
			way = p.ring(append(slices.Clone(path), to))
		}
		if way != nil && (best == nil || len(way) < len(best) || len(way) == len(best) && slices.Compare(way, best) < 0) {
			best = way
		}
	}
	return best
}

// compare fails unless the table tells what the model has.
func compare(t *testing.T, x *locks.Table, p *plain, txns uint64) {
	t.Helper()
	var queue []uint64
	for _, a := range p.queued {
		queue = append(queue, a.lock.Txn)
	}
	ids(t, "Queue", x.Queue(), queue...)
	if x.Len() != len(p.have) {
		t.Errorf("Len = %d, want %d", x.Len(), len(p.have))
	}
	for txn := range txns + 1 {
		var have []api.Lock
		for _, a := range p.have {
			if a.lock.Txn == txn {
				have = append(have, a.lock)
			}
		}
		granted(t, x, txn, have...)
		var want api.Lock
		var who []uint64
		at := slices.Index(queue, txn)
		if at >= 0 {
			want, who = p.queued[at].lock, p.waitsFor(p.queued[at], at)
		}
		if l, ok := x.Waits(txn); ok != (at >= 0) || !same(l, want) {
			t.Errorf("Waits(%d) = %s, %t, want %s", txn, tell(l), ok, tell(want))
		}
		ids(t, "Blockers", x.Blockers(txn), who...)
		most := uint64(0)
		for _, n := range p.ring([]uint64{txn}) {
			most = max(most, n)
		}
		victim(t, x, txn, most)
	}
}

// nobodyInTheWay fails if two that were not forced overlap and don't go together (P19.4).
func nobodyInTheWay(t *testing.T, p *plain) {
	t.Helper()
	for i, a := range p.have {
		for _, b := range p.have[:i] {
			if a.against(b) && !a.forced && !b.forced {
				t.Errorf("%s and %s are granted", tell(a.lock), tell(b.lock))
			}
		}
	}
}

// someLock draws one, whose keys are of the universe.
func someLock(r *rand.Rand, txns int) api.Lock {
	all := universe()
	l := lock(uint64(1+r.Intn(txns)), all[r.Intn(len(all))], "", byte(1+r.Intn(3)))
	if r.Intn(3) == 0 {
		return key(l.Txn, all[1+4*r.Intn(3)], l.Mode)
	}
	to := all[r.Intn(len(all))]
	if to > string(l.From) {
		l.To = []byte(to)
	}
	return l
}

// do does one step that is drawn, of the table and of the model.
func do(t *testing.T, r *rand.Rand, x *locks.Table, p *plain, txns int, now uint64) {
	t.Helper()
	txn := uint64(1 + r.Intn(txns))
	isOf := func(a item) bool { return a.lock.Txn == txn }
	var gone []uint64
	switch n := r.Intn(20); {
	case n < 14:
		l := someLock(r, txns)
		until := now + uint64(r.Intn(20))
		want := p.ask(l, until)
		if got := x.Ask(l, until); got != want {
			t.Errorf("Ask(%s) = %d, want %d", tell(l), got, want)
		}
	case n == 14:
		a := newItem(someLock(r, txns))
		a.forced = true
		p.have = append(p.have, a)
		forces(t, x, a.lock)
	case n < 17:
		p.have, _ = rest(p.have, isOf)
		p.queued, _ = rest(p.queued, isOf)
		ids(t, "Release", x.Release(txn), p.pass()...)
	case n == 17:
		p.queued, _ = rest(p.queued, isOf)
		ids(t, "Leave", x.Leave(txn), p.pass()...)
	default:
		p.queued, gone = rest(p.queued, func(a item) bool { return a.until <= now })
		late, passed := x.Tick(now)
		ids(t, "late", late, gone...)
		ids(t, "granted", passed, p.pass()...)
	}
}

// Long runs of calls, by a source of numbers that are always the same.
func TestRunsAgainstAPlainModel(t *testing.T) {
	for seed := range int64(60) {
		r := rand.New(rand.NewSource(seed))
		txns := 3 + r.Intn(4)
		p := &plain{most: 4 + r.Intn(20), each: 2 + r.Intn(6)}
		x := limited(t, p.most, p.each)
		for step := range 150 {
			do(t, r, x, p, txns, uint64(step))
			compare(t, x, p, uint64(txns))
			nobodyInTheWay(t, p)
			if t.Failed() {
				t.Fatalf("run %d, step %d", seed, step)
			}
		}
	}
}
