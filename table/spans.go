package table

import (
	"bartizan/api"
	"bartizan/atom"
	"bartizan/tomb"
)

// spans are the ranges that a table has deleted. Its methods are for a table
// that is there: of a nil one not even an embedded part can be asked, so that
// Table looks for nil. The set stays within, since who could add to it would
// change a table.
type spans struct {
	set *tomb.Set
}

// cover answers the greatest Seq of at most seq of a span that covers key; 0: there is none.
func (s *spans) cover(key []byte, seq uint64) uint64 {
	return s.set.Cover(key, seq)
}

// all answers the spans, in order.
func (s *spans) all() []api.Span {
	return s.set.All()
}

// ends answers the least From and the greatest To; none: there are no spans.
func (s *spans) ends() ([]byte, []byte) {
	var least, greatest []byte
	for _, one := range s.all() {
		if len(least) == 0 || atom.Less(one.From, least) {
			least = one.From
		}
		if atom.Less(greatest, one.To) {
			greatest = one.To
		}
	}
	return least, greatest
}

// latest answers the greatest Seq; 0: there are no spans.
func (s *spans) latest() uint64 {
	last := uint64(0)
	for _, one := range s.all() {
		last = max(last, one.Seq)
	}
	return last
}

// spansBytes answers the spans as bytes.
func spansBytes(l []api.Span) []byte {
	var p []byte
	for _, s := range l {
		p = append(p, atom.Join(atom.Text(s.From), atom.Text(s.To), atom.Num(s.Seq))...)
	}
	return p
}
