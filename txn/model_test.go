package txn_test

import (
	"fmt"
	"maps"
	"math/rand"
	"slices"
	"strings"
	"testing"

	"bartizan/api"
	"bartizan/locks"
	"bartizan/txn"
)

// pairs is what keys have.
type pairs map[string]string

// apply answers what keys have behind an op.
func (p pairs) apply(o api.Op) {
	switch o.Kind {
	case api.Put:
		p[string(o.Key)] = string(o.Value)
	case api.Delete:
		delete(p, string(o.Key))
	default:
		maps.DeleteFunc(p, func(k, _ string) bool { return string(o.Key) <= k && k < string(o.Value) })
	}
}

// read tells the answer to a Get, a Claim or a Scan.
func (p pairs) read(q txn.Request) string {
	if q.Kind != txn.Scan {
		if v, ok := p[string(q.Key)]; ok {
			return strings.TrimSpace("value " + v)
		}
		return "not-found"
	}
	keys := slices.Sorted(maps.Keys(p))
	if q.Back {
		slices.Reverse(keys)
	}
	all := []string{"ok"}
	for _, k := range keys {
		if k >= string(q.Key) && (len(q.To) == 0 || k < string(q.To)) && len(all) <= q.Most {
			all = append(all, k+"="+p[k])
		}
	}
	return strings.Join(all, " ")
}

// all tells all pairs.
func (p pairs) all() string {
	return strings.TrimSpace(strings.TrimPrefix(p.read(scan("", "", 1<<30)), "ok"))
}

// opOf answers the op that a request makes; false: it makes none.
func opOf(q txn.Request) (api.Op, bool) {
	switch q.Kind {
	case txn.Put:
		return api.Op{Kind: api.Put, Key: q.Key, Value: q.Value}, true
	case txn.Delete:
		return api.Op{Kind: api.Delete, Key: q.Key}, true
	case txn.Range:
		return api.Op{Kind: api.Range, Key: q.Key, Value: q.To}, true
	}
	return api.Op{}, false
}

// lockOf answers the lock that a request needs; false: none.
func lockOf(id uint64, q txn.Request) (api.Lock, bool) {
	modes := map[byte]byte{txn.Get: 1, txn.Scan: 1, txn.Claim: 2, txn.Put: 3, txn.Delete: 3, txn.Range: 3}
	to := q.To
	if q.Kind != txn.Scan && q.Kind != txn.Range {
		to = append(slices.Clone(q.Key), 0)
	}
	return api.Lock{Txn: id, From: q.Key, To: to, Mode: modes[q.Kind]}, modes[q.Kind] > 0
}

// mind is a transaction as the model has it.
type mind struct {
	wait, end uint64
	ops       []api.Op
	saves     []int
	name      string
	dead      string
	pending   *txn.Request
	late      bool
}

// plain is a store without an engine: what keys have, and who may touch them.
type plain struct {
	minds  map[uint64]*mind
	last   uint64
	now    uint64
	table  *locks.Table
	pairs  pairs
	tables int // of level 0
	memo   int // ops
}

func newPlain(c txn.Config) *plain {
	table, _ := locks.New(c.Locks, c.Each)
	return &plain{minds: map[uint64]*mind{}, table: table, pairs: pairs{}}
}

// living answers those that aren't dead, rising.
func (p *plain) living() []uint64 {
	var all []uint64
	for id, m := range p.minds {
		if m.dead == "" {
			all = append(all, id)
		}
	}
	slices.Sort(all)
	return all
}

func (p *plain) begin(wait, life uint64) string {
	if len(p.living()) >= api.MaxTxns {
		return "lock-limit"
	}
	p.last++
	p.minds[p.last] = &mind{wait: wait, end: p.now + life}
	return "ok"
}

func (p *plain) kill(id uint64, why string) {
	p.minds[id] = &mind{dead: why}
	p.table.Release(id)
}

// awake answers the transaction, or why there is none.
func (p *plain) awake(id uint64) (*mind, string) {
	m, ok := p.minds[id]
	if !ok {
		return nil, "bad-state"
	}
	if m.dead != "" {
		delete(p.minds, id)
		return nil, m.dead
	}
	return m, ""
}

func (p *plain) do(id uint64, q txn.Request) string {
	m, why := p.awake(id)
	switch {
	case why != "":
		return why
	case m.pending != nil:
		return "busy"
	case m.name != "" && q.Kind != txn.Commit && q.Kind != txn.Rollback:
		return "bad-state"
	}
	if _, writes := opOf(q); writes && len(m.ops) >= api.MaxOps {
		return "too-large"
	}
	l, needs := lockOf(id, q)
	if !needs {
		return p.perform(id, m, q)
	}
	switch p.table.Ask(l, p.now+m.wait) {
	case api.LockLimit:
		return "lock-limit"
	case api.Fine:
		return p.perform(id, m, q)
	}
	m.pending = &q
	for {
		victim, ok := p.table.Victim(id)
		if !ok {
			return "waiting"
		}
		p.kill(victim, "deadlock")
		if victim == id {
			delete(p.minds, id)
			return "deadlock"
		}
	}
}

func (p *plain) run(id uint64) string {
	m, why := p.awake(id)
	switch {
	case why != "":
		return why
	case m.pending == nil:
		return "bad-state"
	case slices.Contains(p.table.Queue(), id):
		return "waiting"
	}
	q, late := *m.pending, m.late
	m.pending, m.late = nil, false
	if late {
		return "timed-out"
	}
	return p.perform(id, m, q)
}

func (p *plain) perform(id uint64, m *mind, q txn.Request) string {
	if o, ok := opOf(q); ok {
		m.ops = append(m.ops, o)
		return "ok"
	}
	switch q.Kind {
	case txn.Get, txn.Claim, txn.Scan:
		view := maps.Clone(p.pairs)
		for _, o := range m.ops {
			view.apply(o)
		}
		return view.read(q)
	case txn.Save:
		m.saves = append(m.saves, len(m.ops))
		return "ok"
	case txn.Commit, txn.Rollback:
		return p.finish(id, q.Kind == txn.Commit)
	case txn.Prepare:
		switch {
		case p.named(string(q.Name)) > 0:
			return "duplicate"
		case p.tables >= api.Tables:
			return "stalled"
		}
		m.name = string(q.Name)
		return "ok"
	}
	if len(m.saves) == 0 {
		return "not-found"
	}
	if q.Kind == txn.Back {
		m.ops = slices.Clone(m.ops[:m.saves[len(m.saves)-1]])
	} else {
		m.saves = m.saves[:len(m.saves)-1]
	}
	return "ok"
}

// named answers who is prepared under that name; 0: nobody.
func (p *plain) named(name string) uint64 {
	for id, m := range p.minds {
		if m.name == name {
			return id
		}
	}
	return 0
}

func (p *plain) finish(id uint64, commit bool) string {
	m := p.minds[id]
	if commit && (len(m.ops) > 0 || m.name != "") && (p.tables >= api.Tables || p.memo+len(m.ops) > api.Memory) {
		return "stalled"
	}
	if commit {
		for _, o := range m.ops {
			p.pairs.apply(o)
		}
		p.memo += len(m.ops)
	}
	delete(p.minds, id)
	p.table.Release(id)
	return "ok"
}

func (p *plain) decide(name string, commit bool) string {
	id := p.named(name)
	if id == 0 {
		return "not-found"
	}
	return p.finish(id, commit)
}

func (p *plain) tick(now uint64) string {
	p.now = now
	late, _ := p.table.Tick(now)
	for _, id := range late {
		p.minds[id].late = true
	}
	for _, id := range p.living() {
		if m := p.minds[id]; m.name == "" && m.end <= now {
			p.kill(id, "expired")
		}
	}
	return "ok"
}

func (p *plain) flush() string {
	if p.memo == 0 {
		return "bad-state"
	}
	p.memo, p.tables = 0, p.tables+1
	return "ok"
}

// heldText tells what is prepared, by rising names.
func (p *plain) heldText() string {
	byName := map[string][]api.Op{}
	for _, m := range p.minds {
		if m.name != "" {
			byName[m.name] = m.ops
		}
	}
	var all []string
	for _, name := range slices.Sorted(maps.Keys(byName)) {
		all = append(all, name+"("+opText(byName[name])+")")
	}
	return strings.Join(all, " ")
}

// told tells what a store like it tells.
func (p *plain) told() string {
	var b strings.Builder
	fmt.Fprint(&b, p.living(), "|", p.heldText(), "|", p.pairs.all(), "|", p.now)
	for id := range uint64(100) {
		m, ok := p.minds[id]
		if pending := ok && m.pending != nil; pending {
			fmt.Fprint(&b, "|", id, pending, p.table.Blockers(id))
		}
	}
	return b.String()
}

// reopen is what the model is when the store is opened anew.
func (p *plain) reopen(c txn.Config) {
	byName := map[string]*mind{}
	for _, m := range p.minds {
		if m.name != "" {
			byName[m.name] = &mind{name: m.name, ops: m.ops}
		}
	}
	next := newPlain(c)
	next.pairs, next.tables, next.memo = p.pairs, p.tables, p.memo
	for _, name := range slices.Sorted(maps.Keys(byName)) {
		next.last++
		next.minds[next.last] = byName[name]
		for _, o := range byName[name].ops {
			q := txn.Request{Kind: txn.Put, Key: o.Key}
			if o.Kind == api.Range {
				q = txn.Request{Kind: txn.Range, Key: o.Key, To: o.Value}
			}
			l, _ := lockOf(next.last, q)
			next.table.Force(l)
		}
	}
	*p = *next
}

// act is one step of a run.
type act struct {
	kind string
	id   uint64
	q    txn.Request
	n    uint64
	life uint64
	yes  bool
}

func (a act) String() string {
	return fmt.Sprintf("%s %d %s %d %d %t", a.kind, a.id, requestText(a.q), a.n, a.life, a.yes)
}

// do makes the call, and tells the answer.
func (a act) do(x *stage) string {
	switch a.kind {
	case "begin":
		_, answer := x.s.Begin(a.n, a.life)
		return word(answer)
	case "do":
		return replyText(x.s.Do(a.id, a.q))
	case "run":
		return replyText(x.s.Run(a.id))
	case "decide":
		return word(x.s.Decide(a.q.Name, a.yes))
	case "tick":
		return word(x.s.Tick(x.s.Now() + a.n))
	case "flush":
		return word(x.s.Flush())
	case "compact":
		return word(x.s.Compact(int(a.n)))
	}
	s, err := txn.Open(x.d, x.c)
	if err != api.OK {
		return "gone"
	}
	x.s = s
	return "ok"
}

// mark does it in the model. Of a compaction only the store knows whether there is anything to do.
func (a act) mark(p *plain, c txn.Config, got string) string {
	switch a.kind {
	case "begin":
		return p.begin(a.n, a.life)
	case "do":
		return p.do(a.id, a.q)
	case "run":
		return p.run(a.id)
	case "decide":
		return p.decide(string(a.q.Name), a.yes)
	case "tick":
		return p.tick(p.now + a.n)
	case "flush":
		return p.flush()
	case "compact":
		if a.n == 0 {
			want := map[bool]string{true: "bad-state", false: "ok"}[p.tables == 0]
			p.tables = 0
			return want
		}
		return got
	}
	p.reopen(c)
	return "ok"
}

// someRequest rolls a request of few keys, so that they meet.
func someRequest(r *rand.Rand) txn.Request {
	key := func() string { return string(rune('a' + r.Intn(5))) }
	switch n := r.Intn(40); {
	case n < 9:
		return get(key())
	case n < 12:
		return claim(key())
	case n < 20:
		return put(key(), fmt.Sprint(r.Intn(1000)))
	case n < 22:
		return del(key())
	case n < 24:
		from := key()
		return span(from, from+key())
	case n < 27:
		q := scan(key(), key(), r.Intn(6)-1)
		q.Back = r.Intn(2) == 0
		if string(q.Key) >= string(q.To) {
			q.To = nil
		}
		return q
	case n < 30:
		return plainly(txn.Save)
	case n < 32:
		return plainly(txn.Back)
	case n < 33:
		return plainly(txn.Pop)
	case n < 35:
		return prepare(string(rune('p' + r.Intn(3))))
	case n < 39:
		return plainly(txn.Commit)
	}
	return plainly(txn.Rollback)
}

// someAct rolls a step; last is the greatest number that was given.
func someAct(r *rand.Rand, last uint64) act {
	id := max(1, last-min(last, uint64(r.Intn(5))))
	switch n := r.Intn(100); {
	case n < 10 || last == 0:
		return act{kind: "begin", n: uint64(1 + r.Intn(8)), life: uint64(5 + r.Intn(40))}
	case n < 68:
		return act{kind: "do", id: id, q: someRequest(r)}
	case n < 84:
		return act{kind: "run", id: id}
	case n < 87:
		return act{kind: "decide", q: prepare(string(rune('p' + r.Intn(3)))), yes: r.Intn(3) > 0}
	case n < 93:
		return act{kind: "tick", n: uint64(1 + r.Intn(3))}
	case n < 95:
		return act{kind: "flush"}
	case n < 99:
		return act{kind: "compact", n: uint64(r.Intn(2))}
	}
	return act{kind: "open"}
}

// limits rolls a Config.
func limits(r *rand.Rand) txn.Config {
	if r.Intn(2) == 0 {
		return wide()
	}
	return txn.Config{Locks: 3 + r.Intn(15), Each: 2 + r.Intn(6)}
}

// Long runs of calls, by a source of numbers that are always the same.
func TestRunsAgainstAPlainModel(t *testing.T) {
	count := map[string]int{}
	for seed := range int64(300) {
		r := rand.New(rand.NewSource(seed))
		x := newStage(t, api.MaxDisk, 0, limits(r))
		p, h := newPlain(x.c), newHistory(t)
		for step := range 250 {
			a := someAct(r, p.last)
			before := told(x.s)
			got := a.do(x)
			want := a.mark(p, x.c, got)
			count[strings.Fields(got)[0]]++
			if got != want {
				t.Fatalf("run %d, step %d: %s answered %s, want %s", seed, step, a, got, want)
			}
			if told(x.s) != p.told() {
				t.Fatalf("run %d, step %d: %s: it tells %s, want %s", seed, step, a, told(x.s), p.told())
			}
			if isOneOf(got, "bad-state", "busy", "lock-limit", "duplicate", "too-large", "stalled") && told(x.s) != before {
				t.Fatalf("run %d, step %d: %s, refused, has changed %s to %s", seed, step, a, before, told(x.s))
			}
			nobodyGoesRound(t, x.s)
			h.add(a, got)
			h.check(x.s)
			if t.Failed() {
				t.Fatalf("run %d, step %d: %s", seed, step, a)
			}
		}
	}
	for _, w := range words {
		if count[w] == 0 && !isOneOf(w, "too-large", "disk-full", "exhausted", "gone") {
			t.Errorf("%s was never answered", w)
		}
	}
}

func isOneOf(w string, l ...string) bool {
	return slices.Contains(l, w)
}

// nobodyGoesRound fails if transactions wait for one another in a ring.
func nobodyGoesRound(t *testing.T, s *txn.Store) {
	t.Helper()
	for _, id := range s.Known() {
		reached := map[uint64]bool{}
		work := s.Waits(id)
		for len(work) > 0 {
			next := work[0]
			work = work[1:]
			if next == id {
				t.Fatalf("%d waits for itself", id)
			}
			if !reached[next] {
				reached[next] = true
				work = append(work, s.Waits(next)...)
			}
		}
	}
}

// As many ticks as the longest wait leave nobody waiting.
func TestNobodyWaitsForEver(t *testing.T) {
	for seed := range int64(60) {
		r := rand.New(rand.NewSource(seed))
		x := newStage(t, api.MaxDisk, 0, limits(r))
		p := newPlain(x.c)
		for range 60 {
			a := someAct(r, p.last)
			a.mark(p, x.c, a.do(x))
		}
		x.tick(x.s.Now()+9, "ok")
		for _, id := range x.s.Known() {
			ids(t, "Waits", x.s.Waits(id))
			if x.s.Pending(id) && x.s.Run(id).Answer == api.Waiting {
				t.Errorf("run %d: %d waits still", seed, id)
			}
		}
	}
}
