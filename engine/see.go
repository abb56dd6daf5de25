package engine

import (
	"bartizan/api"
	"bartizan/atom"
	"bartizan/edit"
	"bartizan/glass"
	"bartizan/memo"
	"bartizan/merge"
)

// Get answers the key's value as of seq; false: it has none.
func (e *Engine) Get(key []byte, seq uint64) ([]byte, bool) {
	if e == nil {
		return nil, false
	}
	value, state := e.find(key, seq)
	return value, state == memo.Found
}

// find looks for the key where it was written last first: whatever is known
// there holds, since all else of that key is older.
func (e *Engine) find(key []byte, seq uint64) ([]byte, int) {
	if value, state := e.memo.Get(key, seq); state != memo.Unknown {
		return value, state
	}
	behind := atom.Join(key, []byte{0})
	for level := range api.Levels {
		for _, line := range e.state.Over(level, key, behind) {
			if value, _, state := e.tables[line.Number].Get(key, seq); state != memo.Unknown {
				return value, state
			}
		}
	}
	return nil, memo.Unknown
}

// Scan answers the first most pairs from from on and below to (to the end, if
// to is empty) as of seq, or the last ones by falling keys, if back.
func (e *Engine) Scan(from, to []byte, most int, back bool, seq uint64) []api.Pair {
	if e == nil {
		return nil
	}
	var lines []edit.Line
	for level := range api.Levels {
		lines = append(lines, e.state.Over(level, from, to)...)
	}
	lists, spans := e.contents(lines)
	lists = append(lists, e.memo.Entries())
	spans = append(spans, e.memo.Spans()...)
	g, _ := glass.New(merged(lists), spans, seq)
	return g.Scan(from, to, most, back)
}

// contents answers the entries of each table, and the spans of all.
func (e *Engine) contents(lines []edit.Line) ([][]api.Entry, []api.Span) {
	var lists [][]api.Entry
	var spans []api.Span
	for _, line := range lines {
		t := e.tables[line.Number]
		lists = append(lists, t.Entries())
		spans = append(spans, t.Spans()...)
	}
	return lists, spans
}

// merged answers the lists as one. Those of memos and tables rise: so none is refused.
func merged(lists [][]api.Entry) []api.Entry {
	c, _ := merge.New(lists...)
	return c.All()
}

// Held answers what was prepared, and neither committed nor undone, by rising names.
func (e *Engine) Held() []Held {
	if e == nil {
		return nil
	}
	var all []Held
	for _, h := range e.held {
		all = append(all, apart(h))
	}
	return all
}

// Last answers the greatest number that was given.
func (e *Engine) Last() uint64 {
	if e == nil {
		return 0
	}
	return e.last
}

// Pin answers Last, as of which the store is seen till it is unpinned as often.
func (e *Engine) Pin() uint64 {
	if !e.Up() {
		return 0
	}
	e.pins[e.last]++
	return e.last
}

// Unpin takes one pin from the number.
func (e *Engine) Unpin(seq uint64) api.Errno {
	if err := e.ready(); err != api.OK {
		return err
	}
	switch e.pins[seq] {
	case 0:
		return api.ErrNone
	case 1:
		delete(e.pins, seq)
	default:
		e.pins[seq]--
	}
	return api.OK
}
