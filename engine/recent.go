package engine

import (
	"bytes"
	"slices"

	"bartizan/api"
	"bartizan/batch"
	"bartizan/entry"
	"bartizan/memo"
)

// recent is what the log tells, and the greatest number that was given.
type recent struct {
	memo *memo.Memo
	ops  int    // that the memo has
	held []Held // by rising names
	last uint64
}

// tell does what the note says: when it is noted, and whenever the log is read
// again, so that both come to the same.
func (r *recent) tell(n entry.Note, heights ...int) {
	ops := r.done(n)
	switch n.Kind {
	case entry.Prepare:
		r.hold(n.Name, n.Ops)
	case entry.Commit, entry.Undo:
		r.release(n.Name)
	}
	if len(ops) > 0 && r.memo.Batch(ops, n.Seq, heights...) == api.OK {
		r.ops += len(ops)
		r.last = max(r.last, r.memo.Last())
	}
}

// done answers the ops that are done by the note.
func (r *recent) done(n entry.Note) []api.Op {
	switch n.Kind {
	case entry.Write:
		return n.Ops
	case entry.Commit:
		if at, ok := r.place(n.Name); ok {
			return r.held[at].Ops
		}
	}
	return nil
}

// place answers how many names that are held are below name, and whether it is held itself.
func (r *recent) place(name []byte) (int, bool) {
	return slices.BinarySearchFunc(r.held, name, func(h Held, name []byte) int {
		return bytes.Compare(h.Name, name)
	})
}

func (r *recent) hold(name []byte, ops []api.Op) {
	if at, ok := r.place(name); !ok {
		r.held = slices.Insert(r.held, at, apart(Held{name, ops}))
	}
}

func (r *recent) release(name []byte) {
	if at, ok := r.place(name); ok {
		r.held = slices.Delete(r.held, at, at+1)
	}
}

// replay does what the notes say, and answers the fewest that say the same.
func (r *recent) replay(l []entry.Note) []entry.Note {
	var all []entry.Note
	for _, n := range l {
		// What was committed needs its name no more: it is a write as any other.
		if ops := r.done(n); len(ops) > 0 {
			all = append(all, entry.Note{Kind: entry.Write, Seq: n.Seq, Ops: ops})
		}
		r.tell(n)
	}
	return append(all, r.prepared()...)
}

// prepared answers the notes of what is held.
func (r *recent) prepared() []entry.Note {
	var all []entry.Note
	for _, h := range r.held {
		all = append(all, entry.Note{Kind: entry.Prepare, Name: h.Name, Ops: h.Ops})
	}
	return all
}

// apart copies what is held, since what is handed in isn't kept, and what is
// kept isn't handed out.
func apart(h Held) Held {
	return Held{bytes.Clone(h.Name), batch.Copy(h.Ops)}
}
