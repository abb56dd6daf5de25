package txn_test

import (
	"maps"
	"strings"
	"testing"

	"bartizan/api"
	"bartizan/txn"
)

// deed is a request that was done, and what it was answered.
type deed struct {
	q     txn.Request
	reply string
}

// history is what was told to whom, without a thought of locks: those that
// commit are done one by one, on what those ahead of them made (P20.5).
type history struct {
	t      *testing.T
	last   uint64
	deeds  map[uint64][]deed
	asked  map[uint64]txn.Request // what waits
	names  map[string]uint64      // who is prepared
	serial pairs
}

func newHistory(t *testing.T) *history {
	return &history{t, 0, map[uint64][]deed{}, map[uint64]txn.Request{}, map[string]uint64{}, pairs{}}
}

// add notes a step, and what came of it.
func (h *history) add(a act, got string) {
	h.t.Helper()
	switch {
	case a.kind == "begin" && got == "ok":
		h.last++
	case a.kind == "do" && got == "waiting":
		h.asked[a.id] = a.q
	case a.kind == "do":
		h.done(a.id, a.q, got)
	case a.kind == "run" && got != "waiting":
		h.done(a.id, h.asked[a.id], got)
	case a.kind == "decide" && got == "ok":
		h.end(h.names[string(a.q.Name)], a.yes)
	case a.kind == "open" && got == "ok":
		h.reopen()
	}
}

// done notes a request that was answered.
func (h *history) done(id uint64, q txn.Request, got string) {
	h.t.Helper()
	isDone := got == "ok" || got == "not-found" || strings.HasPrefix(got, "ok ") || strings.HasPrefix(got, "value")
	switch {
	case !isDone:
		return
	case q.Kind == txn.Commit || q.Kind == txn.Rollback:
		h.end(id, q.Kind == txn.Commit)
	case q.Kind == txn.Prepare:
		h.names[string(q.Name)] = id
	default:
		h.deeds[id] = append(h.deeds[id], deed{q, got})
	}
}

// end lets the transaction be over.
func (h *history) end(id uint64, commit bool) {
	h.t.Helper()
	maps.DeleteFunc(h.names, func(_ string, who uint64) bool { return who == id })
	if commit {
		h.serial = h.replay(h.deeds[id])
	}
	delete(h.deeds, id)
}

// replay answers what keys have behind the deeds, done one by one now; each reads what it was answered.
func (h *history) replay(l []deed) pairs {
	h.t.Helper()
	view := maps.Clone(h.serial)
	var saves []pairs
	for _, d := range l {
		want := "ok"
		switch {
		case d.q.Kind == txn.Save:
			saves = append(saves, maps.Clone(view))
		case d.q.Kind == txn.Get || d.q.Kind == txn.Claim || d.q.Kind == txn.Scan:
			want = view.read(d.q)
		case d.q.Kind == txn.Back || d.q.Kind == txn.Pop:
			if len(saves) == 0 {
				want = "not-found"
			} else if d.q.Kind == txn.Back {
				view = maps.Clone(saves[len(saves)-1])
			} else {
				saves = saves[:len(saves)-1]
			}
		default:
			o, _ := opOf(d.q)
			view.apply(o)
		}
		if d.reply != want {
			h.t.Errorf("%s was answered %s, but one behind the other it is %s", requestText(d.q), d.reply, want)
		}
	}
	return view
}

// reopen leaves those that are prepared, by the numbers that they have then.
// What they read ahead of it isn't locked any more: only what they write.
func (h *history) reopen() {
	next := newHistory(h.t)
	next.serial = h.serial
	for _, name := range sorted(h.names) {
		next.last++
		next.names[name] = next.last
		next.deeds[next.last] = h.writes(h.names[name])
	}
	*h = *next
}

// writes answers the writes of the transaction that it didn't go back from.
func (h *history) writes(id uint64) []deed {
	var all []deed
	var saves []int
	for _, d := range h.deeds[id] {
		_, writes := opOf(d.q)
		last := len(saves) - 1
		switch {
		case writes:
			all = append(all, d)
		case d.q.Kind == txn.Save:
			saves = append(saves, len(all))
		case d.q.Kind == txn.Back && last >= 0:
			all = all[:saves[last]:saves[last]]
		case d.q.Kind == txn.Pop && last >= 0:
			saves = saves[:last]
		}
	}
	return all
}

// ops answers what the transaction has written.
func (h *history) ops(id uint64) []api.Op {
	var all []api.Op
	for _, d := range h.writes(id) {
		o, _ := opOf(d.q)
		all = append(all, o)
	}
	return all
}

// heldText tells what is prepared.
func (h *history) heldText() string {
	var all []string
	for _, name := range sorted(h.names) {
		all = append(all, name+"("+opText(h.ops(h.names[name]))+")")
	}
	return strings.Join(all, " ")
}

// lasting tells what lasts of it.
func (h *history) lasting() string {
	return h.serial.all() + "|" + h.heldText()
}

// check fails unless the store has what they made that committed, and holds what was prepared.
func (h *history) check(s *txn.Store) {
	h.t.Helper()
	is(h.t, "what lasts", lasting(s), h.lasting())
}

// lasting tells what lasts of a store.
func lasting(s *txn.Store) string {
	return pairText(s.All()) + "|" + heldText(s)
}
