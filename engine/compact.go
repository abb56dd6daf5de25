package engine

import (
	"bytes"
	"cmp"
	"maps"
	"slices"

	"bartizan/api"
	"bartizan/atom"
	"bartizan/edit"
	"bartizan/glass"
	"bartizan/tomb"
)

// Compact puts tables of the level, and those of the next one that they reach
// into, together to tables of the next one.
func (e *Engine) Compact(level int) api.Errno {
	if err := e.ready(); err != api.OK {
		return err
	}
	if level < 0 || level > api.Levels-2 {
		return api.ErrArg
	}
	lines := e.ripe(level)
	if len(lines) == 0 {
		return api.ErrState
	}
	from, to := bounds(lines)
	lines = append(lines, e.state.Over(level+1, from, to)...)
	sheets, ok := e.together(level+1, lines)
	// More than 100 never go, since there are no more; and if more came, there
	// would be too many in all.
	if !ok || len(e.tables)-len(lines)+len(sheets) > api.Lines {
		return api.ErrStall
	}
	whole := e.state.Whole()
	change := edit.Edit{Next: whole.Next + uint64(len(sheets)), Seq: e.last, Log: whole.Log}
	var old []string
	for _, l := range lines {
		change.Drop = append(change.Drop, l.Number)
		old = append(old, tableName(l.Number))
	}
	return e.install(change, sheets, nil, old)
}

// ripe answers the level's tables that are to go down: of level 0 all, since
// they may overlap; of others the oldest.
func (e *Engine) ripe(level int) []edit.Line {
	lines := e.state.Level(level)
	if level == 0 || len(lines) == 0 {
		return lines
	}
	return []edit.Line{slices.MinFunc(lines, func(a, b edit.Line) int {
		return cmp.Compare(a.Number, b.Number)
	})}
}

// bounds answers the least From and the greatest To.
func bounds(lines []edit.Line) ([]byte, []byte) {
	from, to := lines[0].From, lines[0].To
	for _, l := range lines[1:] {
		if atom.Less(l.From, from) {
			from = l.From
		}
		if atom.Less(to, l.To) {
			to = l.To
		}
	}
	return from, to
}

// together answers the tables of that level that the tables of those lines
// become; false: one would have too much.
func (e *Engine) together(level int, lines []edit.Line) ([]sheet, bool) {
	lists, spans := e.contents(lines)
	numbers := append(slices.Sorted(maps.Keys(e.pins)), e.last)
	l, spans := glass.Keep(merged(lists), joined(spans), e.isBottom(level, lines), numbers...)
	parts := split(l)
	if len(parts) == 0 && len(spans) > 0 {
		parts = append(parts, nil)
	}
	next := e.state.Whole().Next
	var sheets []sheet
	for i, part := range parts {
		// A table has the spans up to where the next one begins, so that no two overlap.
		var from, to []byte
		if i > 0 {
			from = part[0].Key.User
		}
		if i+1 < len(parts) {
			to = parts[i+1][0].Key.User
		}
		s, err := newSheet(level, next+uint64(i), part, tomb.Clip(spans, from, to))
		if err != api.OK {
			return nil, false
		}
		sheets = append(sheets, s)
	}
	return sheets, true
}

// isBottom tells whether no level below has any key within the bounds of these tables.
func (e *Engine) isBottom(level int, lines []edit.Line) bool {
	from, to := bounds(lines)
	for below := level + 1; below < api.Levels; below++ {
		if len(e.state.Over(below, from, to)) > 0 {
			return false
		}
	}
	return true
}

// joined puts the pieces into which a span was cut, which have its number alone,
// together where they touch: else there would be more of them each time.
func joined(l []api.Span) []api.Span {
	slices.SortFunc(l, func(a, b api.Span) int {
		return cmp.Or(cmp.Compare(a.Seq, b.Seq), bytes.Compare(a.From, b.From))
	})
	var all []api.Span
	for _, s := range l {
		last := len(all) - 1
		if last < 0 || all[last].Seq != s.Seq || atom.Less(all[last].To, s.From) {
			all = append(all, s)
		} else if atom.Less(all[last].To, s.To) {
			all[last].To = s.To
		}
	}
	return all
}

// split cuts the entries into those of each table.
func split(l []api.Entry) [][]api.Entry {
	var parts [][]api.Entry
	for len(l) > 0 {
		n := fit(l)
		parts = append(parts, l[:n])
		l = l[n:]
	}
	return parts
}

// fit answers how many of the entries go into one table: at most Entries, but at
// least all of the first key, since one key's can't be in two.
func fit(l []api.Entry) int {
	n := 0
	for n < len(l) {
		next := n + versions(l[n:])
		if n > 0 && next > api.Entries {
			break
		}
		n = next
	}
	return n
}

// versions answers how many entries the first one's key has.
func versions(l []api.Entry) int {
	other := slices.IndexFunc(l, func(e api.Entry) bool { return !bytes.Equal(e.Key.User, l[0].Key.User) })
	if other < 0 {
		return len(l)
	}
	return other
}
