package engine_test

import (
	"fmt"
	"maps"
	"math/rand"
	"slices"
	"strings"
	"testing"

	"bartizan/api"
	"bartizan/disk"
	"bartizan/engine"
)

// model is a store as the list of all that was ever done, one op a number.
type model struct {
	first uint64 // Last, when nothing was done yet
	done  []api.Op
	held  map[string][]api.Op
}

func newModel(seq uint64) *model {
	return &model{first: seq, held: map[string][]api.Op{}}
}

func (m *model) copy() *model {
	return &model{m.first, slices.Clone(m.done), maps.Clone(m.held)}
}

func (m *model) last() uint64 {
	return m.first + uint64(len(m.done))
}

// pairs does all ops up to the number seq, one behind the other.
func (m *model) pairs(seq uint64) map[string]string {
	all := map[string]string{}
	for i, o := range m.done {
		if m.first+uint64(i)+1 > seq {
			break
		}
		switch o.Kind {
		case api.Put:
			all[string(o.Key)] = string(o.Value)
		case api.Delete:
			delete(all, string(o.Key))
		case api.Range:
			maps.DeleteFunc(all, func(k, _ string) bool { return string(o.Key) <= k && k < string(o.Value) })
		}
	}
	return all
}

// scan tells the pairs in the way of engine.Scan.
func scan(pairs map[string]string, from, to string, most int, back bool) string {
	keys := slices.Sorted(maps.Keys(pairs))
	if back {
		slices.Reverse(keys)
	}
	var all []string
	for _, k := range keys {
		if from <= k && (to == "" || k < to) && len(all) < most {
			all = append(all, k+"="+pairs[k])
		}
	}
	return strings.Join(all, " ")
}

func (m *model) heldText() string {
	var all []string
	for _, name := range slices.Sorted(maps.Keys(m.held)) {
		all = append(all, name+"("+opText(m.held[name])+")")
	}
	return strings.Join(all, " ")
}

// told is what lasts of a store.
func (m *model) told() string {
	return scan(m.pairs(api.MaxSeq), "", "", 1<<30, false) + "|" + m.heldText() + "|" + fmt.Sprint(m.last())
}

func lasting(e *engine.Engine) string {
	return all(e, api.MaxSeq) + "|" + held(e) + "|" + fmt.Sprint(e.Last())
}

// The kinds of steps.
const (
	toWrite = iota
	toPrepare
	toCommit
	toUndo
	toFlush
	toCompact
	toReopen
)

// step is a call that may change what lasts.
type step struct {
	kind  int
	name  string
	ops   []api.Op
	level int
}

func (s step) String() string {
	return fmt.Sprintf("{%d %s %s %d}", s.kind, s.name, opText(s.ops), s.level)
}

// do makes the call.
func (s step) do(e **engine.Engine, d *disk.Disk) api.Errno {
	switch s.kind {
	case toWrite:
		return (*e).Write(s.ops, s.level+1)
	case toPrepare:
		return (*e).Prepare([]byte(s.name), s.ops)
	case toCommit:
		return (*e).Commit([]byte(s.name))
	case toUndo:
		return (*e).Undo([]byte(s.name))
	case toFlush:
		return (*e).Flush()
	case toCompact:
		return (*e).Compact(s.level)
	}
	next, err := engine.Open(d)
	if err == api.OK {
		*e = next
	}
	return err
}

// mark does the step in the model.
func (s step) mark(m *model) {
	switch s.kind {
	case toWrite:
		m.done = append(m.done, s.ops...)
	case toPrepare:
		m.held[s.name] = s.ops
	case toCommit:
		m.done = append(m.done, m.held[s.name]...)
		delete(m.held, s.name)
	case toUndo:
		delete(m.held, s.name)
	}
}

// want tells what the step answers where there is room and power.
func (s step) want(m *model, memo int, e *engine.Engine) api.Errno {
	ops, ok := m.held[s.name]
	full := e.Tables(0) >= api.Tables
	switch s.kind {
	case toWrite:
		switch {
		case len(s.ops) == 0:
			return api.OK
		case full || memo+len(s.ops) > api.Memory:
			return api.ErrStall
		}
	case toPrepare:
		switch {
		case ok:
			return api.ErrExists
		case full:
			return api.ErrStall
		}
	case toCommit:
		switch {
		case !ok:
			return api.ErrNone
		case full || memo+len(ops) > api.Memory:
			return api.ErrStall
		}
	case toUndo:
		if !ok {
			return api.ErrNone
		}
	case toFlush:
		switch {
		case memo == 0:
			return api.ErrState
		case e.Tables(0)+e.Tables(1)+e.Tables(2) == api.Lines:
			return api.ErrStall
		}
	case toCompact:
		if e.Tables(s.level) == 0 {
			return api.ErrState
		}
	}
	return api.OK
}

// someOps rolls ops of few keys, so that they meet.
func someOps(r *rand.Rand, keys, most int) []api.Op {
	var l []api.Op
	for range r.Intn(most + 1) {
		key := fmt.Sprintf("k%02d", r.Intn(keys))
		switch n := r.Intn(10); {
		case n < 6:
			l = append(l, put(key, strings.Repeat("v", r.Intn(8))+fmt.Sprint(r.Intn(100))))
		case n < 8:
			l = append(l, del(key))
		default:
			l = append(l, span(key, key+fmt.Sprint(r.Intn(3))))
			if to := fmt.Sprintf("k%02d", r.Intn(keys)); key < to {
				l[len(l)-1] = span(key, to)
			}
		}
	}
	return l
}

// someStep rolls a step.
func someStep(r *rand.Rand, keys, most int) step {
	name := string(rune('p' + r.Intn(4)))
	switch n := r.Intn(40); {
	case n < 15:
		return step{kind: toWrite, ops: someOps(r, keys, most), level: r.Intn(8)}
	case n < 19:
		return step{kind: toPrepare, name: name, ops: someOps(r, keys, most)}
	case n < 22:
		return step{kind: toCommit, name: name}
	case n < 24:
		return step{kind: toUndo, name: name}
	case n < 31:
		return step{kind: toFlush}
	case n < 35:
		return step{kind: toCompact}
	case n < 39:
		return step{kind: toCompact, level: 1}
	}
	return step{kind: toReopen}
}

// agrees fails unless the engine tells what the model does, as of that number.
func agrees(t *testing.T, e *engine.Engine, m *model, r *rand.Rand, keys int, seq uint64) {
	t.Helper()
	bound := func() string { return fmt.Sprintf("k%02d", r.Intn(keys))[:r.Intn(4)] }
	pairs := m.pairs(seq)
	for range 3 {
		from, to, most, back := bound(), bound(), r.Intn(2*keys)-1, r.Intn(2) == 0
		got, want := text(e.Scan([]byte(from), []byte(to), most, back, seq)), scan(pairs, from, to, most, back)
		if got != want {
			t.Fatalf("Scan(%q, %q, %d, %t, %d) = %s, want %s", from, to, most, back, seq, got, want)
		}
	}
	for range 5 {
		key := fmt.Sprintf("k%02d", r.Intn(keys))
		v, ok := e.Get([]byte(key), seq)
		want, has := pairs[key]
		if string(v) != want || ok != has {
			t.Fatalf("Get(%s, %d) = %q, %t, want %q, %t", key, seq, v, ok, want, has)
		}
	}
}

// run is a store beside its model, with the numbers that are pinned.
type run struct {
	t     *testing.T
	r     *rand.Rand
	d     *disk.Disk
	e     *engine.Engine
	m     *model
	memo  int // ops
	pins  []uint64
	keys  int
	count [toReopen + 1]int
}

func (u *run) step(s step) {
	u.t.Helper()
	want := s.want(u.m, u.memo, u.e)
	before := told(u.e)
	err := s.do(&u.e, u.d)
	// Whether there would be too many tables the model doesn't know.
	if err != want && !(s.kind == toCompact && want == api.OK && err == api.ErrStall) {
		u.t.Fatalf("%v answered %d, want %d", s, err, want)
	}
	if err != api.OK {
		if told(u.e) != before {
			u.t.Fatalf("%v, refused, has changed %s to %s", s, before, told(u.e))
		}
		return
	}
	u.count[s.kind]++
	was := len(u.m.done)
	s.mark(u.m)
	u.memo += len(u.m.done) - was
	switch s.kind {
	case toFlush:
		u.memo = 0
	case toReopen:
		u.pins = nil
	}
}

func (u *run) pin() {
	if len(u.pins) < 6 {
		u.pins = append(u.pins, u.e.Pin())
	}
	if at := u.r.Intn(8); at < len(u.pins) {
		fine(u.t, u.e.Unpin(u.pins[at]))
		u.pins = slices.Delete(u.pins, at, at+1)
	}
}

func (u *run) look() {
	u.t.Helper()
	if lasting(u.e) != u.m.told() {
		u.t.Fatalf("%s, want %s", lasting(u.e), u.m.told())
	}
	if u.e.Fresh() != (u.memo == 0) || !u.e.Up() {
		u.t.Fatalf("Fresh = %t, Up = %t with %d ops", u.e.Fresh(), u.e.Up(), u.memo)
	}
	for _, seq := range append(slices.Clone(u.pins), u.e.Last(), u.e.Last()+1, api.MaxSeq) {
		agrees(u.t, u.e, u.m, u.r, u.keys, seq)
	}
	tidy(u.t, u.d, u.e)
}

func TestLongRuns(t *testing.T) {
	for seed := range int64(12) {
		r := rand.New(rand.NewSource(seed))
		keys := []int{4, 20, 60, 99}[seed%4]
		most := []int{2, 6, 30, 64}[seed/4%4]
		e, d := store(t, uint64(seed*seed*seed))
		u := &run{t: t, r: r, d: d, e: e, m: newModel(uint64(seed * seed * seed)), keys: keys}
		for range 200 {
			u.step(someStep(r, keys, most))
			if r.Intn(4) == 0 {
				u.pin()
			}
			u.look()
		}
		if slices.Min(u.count[:]) == 0 {
			t.Errorf("run %d: of some kind no step was done: %v", seed, u.count)
		}
	}
}
