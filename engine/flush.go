package engine

import (
	"slices"

	"bartizan/api"
	"bartizan/edit"
	"bartizan/entry"
	"bartizan/memo"
	"bartizan/table"
)

// sheet is a table that is to be one of the store's.
type sheet struct {
	line  edit.Line
	table *table.Table
	data  []byte
}

// newSheet answers the table of these entries and spans, and its line.
func newSheet(level int, number uint64, l []api.Entry, spans []api.Span) (sheet, api.Errno) {
	p, err := table.Build(l, spans)
	if err != api.OK {
		return sheet{}, err
	}
	t, err := table.Open(p)
	if err != api.OK {
		return sheet{}, err
	}
	from, to := t.Bounds()
	return sheet{edit.Line{Level: level, Number: number, From: from, To: to, Last: t.Last()}, t, p}, api.OK
}

func (s sheet) file() file {
	return file{tableName(s.line.Number), s.data}
}

// Flush makes the memo a table of level 0.
func (e *Engine) Flush() api.Errno {
	if err := e.ready(); err != api.OK {
		return err
	}
	switch {
	case e.ops == 0:
		return api.ErrState
	case len(e.tables)+1 > api.Lines:
		return api.ErrStall
	}
	number := e.state.Whole().Next
	s, err := newSheet(0, number, e.memo.Entries(), e.memo.Spans())
	if err != api.OK {
		return err
	}
	// What is held isn't in the table: the new log has to tell it.
	p, err := entry.Log(e.prepared())
	if err != api.OK {
		return err
	}
	log := file{logName(number + 1), p}
	change := edit.Edit{Next: number + 2, Seq: e.last, Log: number + 1}
	if err := e.install(change, []sheet{s}, []file{log}, []string{e.log.name}); err != api.OK {
		return err
	}
	e.log = tape{log.name, len(log.data)}
	e.memo, e.ops = memo.New(), 0
	return api.OK
}

// install puts the tables, and other files, on the disk, notes the change, the
// tables' lines with it, and deletes the old files: all of it or, unless the
// power goes, nothing.
func (e *Engine) install(change edit.Edit, sheets []sheet, others []file, old []string) api.Errno {
	files := slices.Clone(others)
	for _, s := range sheets {
		change.Add = append(change.Add, s.line)
		files = append(files, s.file())
	}
	state := e.state.Copy()
	if err := state.Apply(change); err != api.OK {
		return err
	}
	if err := e.settle(change, files, old); err != api.OK {
		return err
	}
	e.state = state
	for _, n := range change.Drop {
		delete(e.tables, n)
	}
	for _, s := range sheets {
		e.tables[s.line.Number] = s.table
	}
	return api.OK
}

// settle does on the disk what install does. Whatever the change speaks of is
// there ahead of it, and what it takes away is there till it is noted.
func (e *Engine) settle(change edit.Edit, files []file, old []string) api.Errno {
	p, err := edit.Bytes(change)
	if err != api.OK {
		return err
	}
	if err := create(e.disk, files...); err != api.OK {
		return err
	}
	if err := e.manifest.add(e.disk, p); err != api.OK {
		var names []string
		for _, f := range files {
			names = append(names, f.name)
		}
		return discard(e.disk, err, names...)
	}
	return discard(e.disk, api.OK, old...)
}
