package yard

import (
	"bytes"
	"slices"

	"bartizan/api"
	"bartizan/txn"
)

// The kinds of steps.
const (
	Begin byte = iota
	Do
	Run
	Decide
	Tick
	Flush
	Compact
	Arm
	Crash
	Reopen
)

// Step is what happens.
type Step struct {
	Kind   byte
	ID     uint64
	Q      txn.Request
	N      int
	Life   int
	Commit bool
	Keep   []int
}

// Event is a step, and what came of it.
type Event struct {
	Step  Step
	ID    uint64
	Reply txn.Reply
}

// passage is events that happened so many times, one behind the other.
type passage struct {
	events []Event
	times  int
}

// apart copies an event, since what is noted isn't handed out.
func (e Event) apart() Event {
	e.Step = e.Step.apart()
	e.Reply.Value = bytes.Clone(e.Reply.Value)
	var pairs []api.Pair
	for _, p := range e.Reply.Pairs {
		pairs = append(pairs, api.Pair{Key: bytes.Clone(p.Key), Value: bytes.Clone(p.Value)})
	}
	e.Reply.Pairs = pairs
	return e
}

// apart copies a step, since what is handed in isn't kept.
func (s Step) apart() Step {
	for _, p := range []*[]byte{&s.Q.Key, &s.Q.Value, &s.Q.To, &s.Q.Name} {
		*p = bytes.Clone(*p)
	}
	s.Keep = slices.Clone(s.Keep)
	return s
}
