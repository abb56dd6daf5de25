package engine

import (
	"slices"

	"bartizan/api"
	"bartizan/disk"
	"bartizan/edit"
	"bartizan/entry"
	"bartizan/memo"
	"bartizan/reel"
	"bartizan/table"
)

// Format makes an empty store whose Last is seq.
func Format(d *disk.Disk, seq uint64) api.Errno {
	switch {
	case d == nil:
		return api.ErrNone
	case seq > api.MaxSeq:
		return api.ErrSeq
	case len(d.List()) > 0:
		return api.ErrExists
	}
	_, _, err := publish(d, edit.Edit{Next: 2, Seq: seq, Log: 1}, nil)
	return err
}

// publish makes the store that the edit and the notes tell the one that the disk
// has, and answers its manifest and its log. They are named by the edit's Log.
func publish(d *disk.Disk, whole edit.Edit, notes []entry.Note) (tape, tape, api.Errno) {
	p, err := edit.Bytes(whole)
	if err != api.OK {
		return tape{}, tape{}, err
	}
	edits, err := reel.Frame(0, p)
	if err != api.OK {
		return tape{}, tape{}, err
	}
	log, err := entry.Log(notes)
	if err != api.OK {
		return tape{}, tape{}, err
	}
	manifest := file{manifestName(whole.Log), edits}
	told := file{logName(whole.Log), log}
	if err := create(d, told, manifest, file{fresh, []byte(manifest.name)}); err != api.OK {
		return tape{}, tape{}, err
	}
	// Up to here the disk has the store that it had; from here on the new one.
	if err := d.Rename(fresh, current); err != api.OK {
		return tape{}, tape{}, err
	}
	return tape{manifest.name, len(edits)}, tape{told.name, len(log)}, api.OK
}

// Open answers the store that the disk has.
func Open(d *disk.Disk) (*Engine, api.Errno) {
	switch {
	case d == nil:
		return nil, api.ErrNone
	case !d.On():
		return nil, api.ErrDown
	}
	e, notes, ok := load(d)
	if !ok {
		return nil, api.ErrForm
	}
	// What a crash has left behind goes first: it takes room, and names.
	if err := sweep(d, e.names()); err != api.OK {
		return nil, err
	}
	// What a crash has left of a record at the end of the manifest or the log
	// would hide all that is added behind it: so both are begun anew.
	var err api.Errno
	if e.manifest, e.log, err = publish(d, e.state.Whole(), notes); err != api.OK {
		return nil, err
	}
	if err := sweep(d, e.names()); err != api.OK {
		return nil, err
	}
	return e, api.OK
}

// load reads the store, in the state in which it is to be noted anew, and the
// notes of which its new log is to be; false: there is none. Nothing changes on
// the disk.
func load(d *disk.Disk) (*Engine, []entry.Note, bool) {
	name, err := d.Read(current)
	if err != api.OK {
		return nil, nil, false
	}
	p, err := d.Read(string(name))
	if err != api.OK {
		return nil, nil, false
	}
	state, count := edit.Replay(p)
	if count == 0 {
		return nil, nil, false
	}
	tables, ok := loadTables(d, state.Numbers())
	if !ok {
		return nil, nil, false
	}
	log := tape{name: logName(state.Whole().Log)}
	p, err = d.Read(log.name)
	if err != api.OK {
		return nil, nil, false
	}
	e := &Engine{
		recent:   recent{memo: memo.New(), last: state.Whole().Seq},
		disk:     d,
		crashes:  d.Crashes(),
		manifest: tape{name: string(name)},
		log:      log,
		state:    state,
		tables:   tables,
		pins:     map[uint64]int{},
	}
	notes, _ := entry.Replay(p)
	notes = e.replay(notes)
	return e, notes, e.renumber()
}

// loadTables reads the tables of those numbers; false: one isn't there, or isn't right.
func loadTables(d *disk.Disk, numbers []uint64) (map[uint64]*table.Table, bool) {
	all := map[uint64]*table.Table{}
	for _, n := range numbers {
		p, err := d.Read(tableName(n))
		if err != api.OK {
			return nil, false
		}
		t, err := table.Open(p)
		if err != api.OK {
			return nil, false
		}
		all[n] = t
	}
	return all, true
}

// names answers the names of the store's files.
func (e *Engine) names() []string {
	all := []string{current, e.manifest.name, e.log.name}
	for _, n := range e.state.Numbers() {
		all = append(all, tableName(n))
	}
	return all
}

// renumber makes the state the one that is to be noted anew: of a number of
// which there is neither a manifest nor a log; false: it can't be noted.
func (e *Engine) renumber() bool {
	whole := e.state.Whole()
	names := e.names()
	n := whole.Next
	for slices.Contains(names, manifestName(n)) || slices.Contains(names, logName(n)) {
		n++
	}
	whole.Next, whole.Seq, whole.Log = n+1, e.last, n
	e.state = edit.New()
	return e.state.Apply(whole) == api.OK
}
