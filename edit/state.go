package edit

import (
	"bytes"
	"cmp"
	"slices"

	"bartizan/api"
	"bartizan/atom"
)

// State is which files are the store.
type State struct {
	// By rising Levels, and within each in the order in which Level has them.
	lines []Line
	next  uint64
	seq   uint64
	log   uint64
}

// New answers the first state.
func New() *State {
	return &State{next: 1}
}

// Apply makes the edit's changes, all of them or none.
func (s *State) Apply(e Edit) api.Errno {
	switch {
	case s == nil:
		return api.ErrNone
	case e.Next < s.next || e.Seq < s.seq || e.Log < s.log:
		return api.ErrOrder
	case e.Seq > api.MaxSeq || tooMany(e):
		return api.ErrArg
	}
	lines, ok := without(s.lines, e.Drop)
	if !ok {
		return api.ErrNone
	}
	lines = append(lines, allApart(e.Add)...)
	slices.SortFunc(lines, compare)
	if !isSound(lines, e.Next) {
		return api.ErrForm
	}
	s.lines, s.next, s.seq, s.log = lines, e.Next, e.Seq, e.Log
	return api.OK
}

// without answers a list of the lines but those of the numbers; false: one of these isn't there, or comes twice.
func without(lines []Line, numbers []uint64) ([]Line, bool) {
	rest := slices.Clone(lines)
	for _, n := range numbers {
		at := slices.IndexFunc(rest, func(l Line) bool { return l.Number == n })
		if at < 0 {
			return nil, false
		}
		rest = slices.Delete(rest, at, at+1)
	}
	return rest, true
}

// compare puts lines in the order in which a state has them.
func compare(a, b Line) int {
	switch {
	case a.Level != b.Level:
		return cmp.Compare(a.Level, b.Level)
	case a.Level == 0:
		// The newest table goes first.
		return cmp.Compare(b.Number, a.Number)
	}
	return bytes.Compare(a.From, b.From)
}

// isSound tells whether a state of these lines, in order, and that Next is sound.
func isSound(lines []Line, next uint64) bool {
	for i, l := range lines {
		// Where any of a level overlap, two that are neighbours by their Froms do.
		if !isRight(l, next) || i > 0 && overlap(lines[i-1], l) {
			return false
		}
	}
	all := numbers(lines)
	return len(slices.Compact(all)) == len(lines)
}

// isRight tells whether the line may stand in a state of that Next, whatever stands beside it.
func isRight(l Line, next uint64) bool {
	return l.Level >= 0 && l.Level < api.Levels &&
		len(l.From) >= 1 && atom.Less(l.From, l.To) && !isTooLong(l) &&
		l.Number >= 1 && l.Number < next && l.Last <= api.MaxSeq
}

// overlap tells whether two lines, the first of which doesn't begin later, are of one level and overlap where none may.
func overlap(a, b Line) bool {
	return a.Level == b.Level && a.Level > 0 && atom.Less(b.From, a.To)
}

// numbers answers the lines' Numbers, rising.
func numbers(lines []Line) []uint64 {
	var all []uint64
	for _, l := range lines {
		all = append(all, l.Number)
	}
	slices.Sort(all)
	return all
}

// Level answers the level's lines: of 0 by falling Numbers, of others by rising Froms.
func (s *State) Level(n int) []Line {
	return s.chosen(func(l Line) bool { return l.Level == n })
}

// Over answers the level's lines that have any key from from on and below to
// (to the end, if to is empty) within their bounds.
func (s *State) Over(level int, from, to []byte) []Line {
	return s.chosen(func(l Line) bool { return l.Level == level && reaches(l, from, to) })
}

// chosen answers the lines that are wanted, in order.
func (s *State) chosen(wanted func(Line) bool) []Line {
	if s == nil {
		return nil
	}
	var all []Line
	for _, l := range s.lines {
		if wanted(l) {
			all = append(all, apart(l))
		}
	}
	return all
}

// reaches tells whether any key from from on and below to (to the end, if to is empty) is within the line's bounds.
func reaches(l Line, from, to []byte) bool {
	if atom.Less(from, l.From) {
		from = l.From
	}
	if len(to) == 0 || atom.Less(l.To, to) {
		to = l.To
	}
	return atom.Less(from, to)
}

// Numbers answers the Numbers of all lines, rising.
func (s *State) Numbers() []uint64 {
	if s == nil {
		return nil
	}
	return numbers(s.lines)
}

// Whole answers the edit that makes this state of the first one.
func (s *State) Whole() Edit {
	if s == nil {
		return Edit{}
	}
	return Edit{Next: s.next, Seq: s.seq, Log: s.log, Add: allApart(s.lines)}
}

// Copy answers the same state, apart.
func (s *State) Copy() *State {
	if s == nil {
		return nil
	}
	return &State{lines: allApart(s.lines), next: s.next, seq: s.seq, log: s.log}
}

func allApart(lines []Line) []Line {
	var all []Line
	for _, l := range lines {
		all = append(all, apart(l))
	}
	return all
}

// apart copies a line, since what is handed in isn't kept, and what is kept isn't handed out.
func apart(l Line) Line {
	l.From, l.To = bytes.Clone(l.From), bytes.Clone(l.To)
	return l
}
