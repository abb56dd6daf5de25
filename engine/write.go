package engine

import (
	"bartizan/api"
	"bartizan/batch"
	"bartizan/entry"
	"bartizan/memo"
)

// Write does the ops, all of them or none, durably.
func (e *Engine) Write(l []api.Op, heights ...int) api.Errno {
	if err := e.ready(); err != api.OK {
		return err
	}
	// A memo that is made for it alone tells what is wrong with ops and heights.
	if err := memo.New().Batch(l, 1, heights...); err != api.OK {
		return err
	}
	if len(l) == 0 {
		return api.OK
	}
	if err := e.admits(len(l)); err != api.OK {
		return err
	}
	return e.note(entry.Note{Kind: entry.Write, Seq: e.last + 1, Ops: l}, heights...)
}

// Prepare holds the ops under that name, durably.
func (e *Engine) Prepare(name []byte, l []api.Op) api.Errno {
	if err := e.ready(); err != api.OK {
		return err
	}
	switch {
	case len(name) == 0:
		return api.ErrArg
	case len(name) > api.MaxName:
		return api.ErrLong
	}
	if err := batch.Check(l); err != api.OK {
		return err
	}
	if _, ok := e.place(name); ok {
		return api.ErrExists
	}
	if e.isStalled() {
		return api.ErrStall
	}
	return e.note(entry.Note{Kind: entry.Prepare, Name: name, Ops: l})
}

// Commit does what is held under that name, durably.
func (e *Engine) Commit(name []byte) api.Errno {
	if err := e.ready(); err != api.OK {
		return err
	}
	at, ok := e.place(name)
	if !ok {
		return api.ErrNone
	}
	if err := e.admits(len(e.held[at].Ops)); err != api.OK {
		return err
	}
	// Without ops it needs no number; but even when none is left its note has one.
	return e.note(entry.Note{Kind: entry.Commit, Seq: min(e.last+1, api.MaxSeq), Name: name})
}

// Undo forgets what is held under that name, durably.
func (e *Engine) Undo(name []byte) api.Errno {
	if err := e.ready(); err != api.OK {
		return err
	}
	if _, ok := e.place(name); !ok {
		return api.ErrNone
	}
	return e.note(entry.Note{Kind: entry.Undo, Name: name})
}

// isStalled tells whether too many tables wait to be put together.
func (e *Engine) isStalled() bool {
	return e.Tables(0) >= api.Tables
}

// admits tells why that many ops can't be done now.
func (e *Engine) admits(count int) api.Errno {
	switch {
	case e.isStalled() || e.ops+count > api.Memory:
		return api.ErrStall
	case e.last+uint64(count) > api.MaxSeq:
		return api.ErrSeq
	}
	return api.OK
}

// note puts the note into the log, and then does what it says.
func (e *Engine) note(n entry.Note, heights ...int) api.Errno {
	p, err := entry.Bytes(n)
	if err != api.OK {
		return err
	}
	if err := e.log.add(e.disk, p); err != api.OK {
		return err
	}
	e.tell(n, heights...)
	return api.OK
}
