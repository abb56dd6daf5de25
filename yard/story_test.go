package yard_test

import (
	"maps"
	"slices"
	"strings"
	"testing"

	"bartizan/api"
	"bartizan/txn"
	"bartizan/yard"
)

// pairs is what keys have.
type pairs map[string]string

// apply answers what keys have behind an op.
func (p pairs) apply(o api.Op) {
	switch o.Kind {
	case api.Put:
		p[string(o.Key)] = string(o.Value)
	case api.Delete:
		delete(p, string(o.Key))
	default:
		maps.DeleteFunc(p, func(k, _ string) bool { return string(o.Key) <= k && k < string(o.Value) })
	}
}

// read tells the answer to a Get, a Claim or a Scan.
func (p pairs) read(q txn.Request) string {
	if q.Kind != txn.Scan {
		if v, ok := p[string(q.Key)]; ok {
			return strings.TrimSpace("value " + v)
		}
		return "not-found"
	}
	keys := slices.Sorted(maps.Keys(p))
	if q.Back {
		slices.Reverse(keys)
	}
	all := []string{"ok"}
	for _, k := range keys {
		if k >= string(q.Key) && (len(q.To) == 0 || k < string(q.To)) && len(all) <= q.Most {
			all = append(all, k+"="+p[k])
		}
	}
	return strings.Join(all, " ")
}

// all tells all pairs.
func (p pairs) all() string {
	return strings.TrimSpace(strings.TrimPrefix(p.read(scan("", "", 1<<30)), "ok"))
}

// opOf answers the op that a request makes; false: it makes none.
func opOf(q txn.Request) (api.Op, bool) {
	switch q.Kind {
	case txn.Put:
		return api.Op{Kind: api.Put, Key: q.Key, Value: q.Value}, true
	case txn.Delete:
		return api.Op{Kind: api.Delete, Key: q.Key}, true
	case txn.Range:
		return api.Op{Kind: api.Range, Key: q.Key, Value: q.To}, true
	}
	return api.Op{}, false
}

// deed is a request that was done, and what it was answered.
type deed struct {
	q     txn.Request
	reply string
}

// story is what was told to whom, without a thought of locks, files and power:
// those that commit are done one by one, on what those ahead of them made (P21.2).
type story struct {
	t       *testing.T
	last    uint64
	deeds   map[uint64][]deed
	asked   map[uint64]txn.Request // what waits
	names   map[string]uint64      // who is prepared
	serial  pairs
	pending *yard.Event // the one that was under way when the power went
}

func newStory(t *testing.T) *story {
	return &story{t: t, deeds: map[uint64][]deed{}, asked: map[uint64]txn.Request{}, names: map[string]uint64{}, serial: pairs{}}
}

func sortedNames(m map[string]uint64) []string {
	return slices.Sorted(maps.Keys(m))
}

// add notes a step that was answered.
func (h *story) add(e yard.Event) {
	h.t.Helper()
	id, q := e.Step.ID, e.Step.Q
	answer := e.Reply.Answer
	switch {
	case e.Step.Kind == yard.Begin && answer == api.Fine:
		h.last++
		is(h.t, "the number of who began", e.ID, h.last)
	case e.Step.Kind == yard.Do && answer == api.Waiting:
		h.asked[id] = q
	case e.Step.Kind == yard.Do:
		h.done(id, q, e.Reply)
	case e.Step.Kind == yard.Run && answer != api.Waiting:
		h.done(id, h.asked[id], e.Reply)
	case e.Step.Kind == yard.Decide && answer == api.Fine:
		h.end(h.names[string(q.Name)], e.Step.Commit)
	}
}

// done notes a request that was done.
func (h *story) done(id uint64, q txn.Request, r txn.Reply) {
	h.t.Helper()
	switch {
	case r.Answer > api.NotFound:
		return
	case q.Kind == txn.Commit || q.Kind == txn.Rollback:
		h.end(id, q.Kind == txn.Commit)
	case q.Kind == txn.Prepare:
		h.names[string(q.Name)] = id
	default:
		h.deeds[id] = append(h.deeds[id], deed{q, replyText(r)})
	}
}

// end lets the transaction be over.
func (h *story) end(id uint64, commit bool) {
	h.t.Helper()
	maps.DeleteFunc(h.names, func(_ string, who uint64) bool { return who == id })
	if commit {
		h.serial = h.replay(h.deeds[id])
	}
	delete(h.deeds, id)
}

// replay answers what keys have behind the deeds, done one by one now; each reads what it was answered.
func (h *story) replay(l []deed) pairs {
	h.t.Helper()
	view := maps.Clone(h.serial)
	var saves []pairs
	for _, d := range l {
		want := "ok"
		switch {
		case d.q.Kind == txn.Save:
			saves = append(saves, maps.Clone(view))
		case d.q.Kind == txn.Get || d.q.Kind == txn.Claim || d.q.Kind == txn.Scan:
			want = view.read(d.q)
		case d.q.Kind == txn.Back || d.q.Kind == txn.Pop:
			if len(saves) == 0 {
				want = "not-found"
			} else if d.q.Kind == txn.Back {
				view = maps.Clone(saves[len(saves)-1])
			} else {
				saves = saves[:len(saves)-1]
			}
		default:
			o, _ := opOf(d.q)
			view.apply(o)
		}
		is(h.t, "one behind the other "+stepText(do(0, d.q))+" is answered", d.reply, want)
	}
	return view
}

// writes answers the writes of the transaction that it didn't go back from.
func (h *story) writes(id uint64) []deed {
	var all []deed
	var saves []int
	for _, d := range h.deeds[id] {
		_, writes := opOf(d.q)
		last := len(saves) - 1
		switch {
		case writes:
			all = append(all, d)
		case d.q.Kind == txn.Save:
			saves = append(saves, len(all))
		case d.q.Kind == txn.Back && last >= 0:
			all = slices.Clone(all[:saves[last]])
		case d.q.Kind == txn.Pop && last >= 0:
			saves = saves[:last]
		}
	}
	return all
}

// ops answers what the transaction has written.
func (h *story) ops(id uint64) []api.Op {
	var all []api.Op
	for _, d := range h.writes(id) {
		o, _ := opOf(d.q)
		all = append(all, o)
	}
	return all
}

// lasting tells what lasts of it.
func (h *story) lasting() string {
	var all []string
	for _, name := range sortedNames(h.names) {
		all = append(all, name+"("+opText(h.ops(h.names[name]))+")")
	}
	return h.serial.all() + "|" + strings.Join(all, " ")
}

// copy answers the same story, apart.
func (h *story) copy() *story {
	next := newStory(h.t)
	next.last, next.names, next.serial = h.last, maps.Clone(h.names), maps.Clone(h.serial)
	for id, l := range h.deeds {
		next.deeds[id] = slices.Clone(l)
	}
	return next
}

// reopen notes that a store was opened that has what is found: what was
// under way has happened, or not at all (P21.3). Who is prepared has the number
// that its name gives it; of what it did its writes are left, and locked.
func (h *story) reopen(found string) {
	h.t.Helper()
	if h.pending != nil && found != h.lasting() {
		done := *h.pending
		done.Reply.Answer = api.Fine
		h.pending = nil
		next := h.copy()
		next.add(done)
		*h = *next
	}
	is(h.t, "what is found", found, h.lasting())
	next := newStory(h.t)
	next.serial = h.serial
	for _, name := range sortedNames(h.names) {
		next.last++
		next.names[name] = next.last
		next.deeds[next.last] = h.writes(h.names[name])
	}
	*h = *next
}
