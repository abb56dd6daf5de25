package edit

import (
	"math"

	"bartizan/api"
	"bartizan/atom"
)

// givenUp is what a reader panics with where the bytes are no edit's: so none
// of its methods has to hand on that the one below it failed.
type givenUp struct{}

// reader takes an edit's bytes apart from the front.
type reader struct {
	rest []byte
}

// number takes the number in front, which is at most most.
func (r *reader) number(most uint64) uint64 {
	n, rest, err := atom.Take(r.rest)
	if err != api.OK || n > most {
		panic(givenUp{})
	}
	r.rest = rest
	return n
}

// bound takes the text in front, which is as long as a From or To may be.
func (r *reader) bound() []byte {
	t, rest, err := atom.TakeText(r.rest, mostBound)
	if err != api.OK {
		panic(givenUp{})
	}
	r.rest = rest
	return t
}

// end gives up if anything is left.
func (r *reader) end() {
	if len(r.rest) > 0 {
		panic(givenUp{})
	}
}

func (r *reader) edit() Edit {
	e := Edit{Next: r.number(math.MaxUint64), Seq: r.number(math.MaxUint64), Log: r.number(math.MaxUint64)}
	for range r.number(mostChanges) {
		e.Drop = append(e.Drop, r.number(math.MaxUint64))
	}
	for range r.number(mostChanges) {
		e.Add = append(e.Add, r.line())
	}
	return e
}

func (r *reader) line() Line {
	return Line{
		Level:  int(r.number(mostLevel)),
		Number: r.number(math.MaxUint64),
		From:   r.bound(),
		To:     r.bound(),
		Last:   r.number(math.MaxUint64),
	}
}
