package yard_test

import (
	"fmt"
	"math/rand"
	"slices"
	"strings"
	"testing"

	"bartizan/api"
	"bartizan/txn"
	"bartizan/yard"
)

// someRequest rolls a request of few keys, so that they meet.
func someRequest(r *rand.Rand) txn.Request {
	key := func() string { return string(rune('a' + r.Intn(5))) }
	switch n := r.Intn(41); {
	case n < 9:
		return get(key())
	case n < 12:
		return claim(key())
	case n < 19:
		return put(key(), fmt.Sprint(r.Intn(1000)))
	case n < 20:
		return put(key(), strings.Repeat("v", r.Intn(100)))
	case n < 22:
		return del(key())
	case n < 24:
		from := key()
		return span(from, from+key())
	case n < 27:
		q := scan(key(), key(), r.Intn(6)-1)
		q.Back = r.Intn(2) == 0
		if string(q.Key) >= string(q.To) {
			q.To = nil
		}
		return q
	case n < 30:
		return plainly(txn.Save)
	case n < 32:
		return plainly(txn.Back)
	case n < 33:
		return plainly(txn.Pop)
	case n < 35:
		return prepare(string(rune('p' + r.Intn(3))))
	case n < 39:
		return plainly(txn.Commit)
	case n < 40:
		return plainly(txn.Rollback)
	}
	return wrongRequest(r)
}

// wrongRequest rolls a request that is refused, or nearly is.
func wrongRequest(r *rand.Rand) txn.Request {
	return []txn.Request{
		{}, plainly(13), plainly(255), get(""), put("", "x"), span("b", "a"), span("a", "a"), scan("b", "a", 9), prepare(""),
		put(strings.Repeat("k", api.MaxKey+1), ""), put("e", strings.Repeat("v", api.MaxValue+1)), prepare(strings.Repeat("n", api.MaxName+1)),
		put(strings.Repeat("k", api.MaxKey), strings.Repeat("v", api.MaxValue)),
	}[r.Intn(13)]
}

// someID rolls one of those that are known, or now and then any number.
func someID(r *rand.Rand, s *txn.Store) uint64 {
	known := s.Known()
	if len(known) == 0 || r.Intn(20) == 0 {
		return uint64(r.Intn(10))
	}
	return known[r.Intn(len(known))]
}

// someAsk rolls a Do or a Run of one; mostly the one that leads on.
func someAsk(r *rand.Rand, s *txn.Store) yard.Step {
	id := someID(r, s)
	for range 4 {
		if len(s.Waits(id)) > 0 {
			id = someID(r, s)
		}
	}
	if s.Pending(id) == (r.Intn(10) > 0) {
		return run(id)
	}
	return do(id, someRequest(r))
}

// someStep rolls a step.
func someStep(r *rand.Rand, s *txn.Store) yard.Step {
	switch n := r.Intn(200); {
	case n < 15 || len(s.Known()) == 0 && n < 100:
		return begin(r.Intn(12), r.Intn(60))
	case n < 170:
		return someAsk(r, s)
	case n < 178:
		return decide(string(rune('p'+r.Intn(3))), r.Intn(3) > 0)
	case n < 186:
		return by(yard.Tick, r.Intn(8))
	case n < 189:
		return by(yard.Flush, 0)
	case n < 193:
		return by(yard.Compact, r.Intn(3))
	case n < 196:
		return by(yard.Arm, r.Intn(12))
	case n < 198:
		return crash(r.Intn(600), r.Perm(r.Intn(30))...)
	}
	return by(yard.Reopen, 0)
}

// crowdStep rolls a step of many that live for long and want the same, so that they meet in rings.
func crowdStep(r *rand.Rand, s *txn.Store) yard.Step {
	switch {
	case len(s.Known()) < 8:
		return begin(20, 500)
	case r.Intn(40) == 0:
		return by(yard.Tick, 1)
	}
	a := someAsk(r, s)
	if a.Q.Kind == txn.Prepare { // it would be in the way of all others
		a.Q.Kind = txn.Commit
	}
	return a
}

// someConfig rolls a Config: of much room or little, of many numbers or few.
func someConfig(r *rand.Rand) yard.Config {
	c := wide()
	if r.Intn(2) == 0 {
		c.Txn = txn.Config{Locks: 3 + r.Intn(15), Each: 2 + r.Intn(6)}
	}
	if r.Intn(3) == 0 {
		c.Room = 200 + r.Intn(2000)
	}
	if r.Intn(8) == 0 {
		c.Seq = api.MaxSeq - uint64(r.Intn(20))
	}
	return c
}

// The moods of a yard; in any other the power goes now and then.
const (
	calm = iota
	crowd
)

// play is a yard, and what it must tell.
type play struct {
	*stage
	r     *rand.Rand
	story *story
	watch *watch
	mood  int
	count map[string]int
	noted []yard.Event // what must be
}

func newPlay(t *testing.T, c yard.Config) *play {
	return &play{stage: newStage(t, c), story: newStory(t), watch: newWatch(t, c.Txn), count: map[string]int{}}
}

// somePlay rolls a yard whose steps are to be rolled.
func somePlay(t *testing.T, seed int64) *play {
	r := rand.New(rand.NewSource(seed))
	p := newPlay(t, someConfig(r))
	p.r, p.mood = r, r.Intn(4)
	return p
}

// roll rolls a step: by the yard's mood.
func (p *play) roll() yard.Step {
	switch s := someStep(p.r, p.y.Store()); {
	case p.mood == crowd:
		return crowdStep(p.r, p.y.Store())
	case p.mood == calm && s.Kind >= yard.Arm:
		return someAsk(p.r, p.y.Store())
	case p.y.Disk().On() || p.r.Intn(3) > 0:
		return s
	}
	return crash(p.r.Intn(600), p.r.Perm(p.r.Intn(30))...)
}

// take lets a step happen, and looks at what came of it.
func (p *play) take(s yard.Step) {
	p.t.Helper()
	before := look(p.y)
	e, err := p.y.Step(s)
	if err == api.OK {
		is(p.t, "the step", stepText(e.Step), stepText(s))
	} else {
		is(p.t, "the event beside an error", eventText(e), eventText(yard.Event{}))
		e.Step = s
	}
	p.noted = append(p.noted, e)
	switch {
	case s.Kind == yard.Crash || s.Kind == yard.Reopen:
		p.opened(err)
		return
	case s.Kind == yard.Arm:
		return
	}
	p.count[word(e.Reply.Answer)]++
	after := look(p.y)
	p.power(before, after, e)
	if e.Reply.Answer > api.Waiting {
		p.refused(before, after, e)
	}
	p.add(e)
	p.check()
}

// add notes a step that was answered.
func (p *play) add(e yard.Event) {
	p.t.Helper()
	p.story.add(e)
	p.watch.add(e)
}

// check fails unless the store tells what it must.
func (p *play) check() {
	p.t.Helper()
	if s := p.y.Store(); s != nil {
		is(p.t, "what lasts", lasting(s), p.story.lasting())
		p.watch.check(s)
	}
}

// opened notes an opening, and what it answered.
func (p *play) opened(err api.Errno) {
	p.t.Helper()
	s := p.y.Store()
	is(p.t, "there is a store", s != nil, err == api.OK)
	if err != api.OK {
		p.count["not opened"]++
		return
	}
	p.count["opened"]++
	if p.story.pending != nil {
		p.count["under way"]++
	}
	p.story.reopen(lasting(s))
	p.watch.reopen(s)
	is(p.t, "Up", s.Up(), true)
	is(p.t, "Now", s.Now(), 0)
	is(p.t, "how many are known", len(s.Known()), len(s.Held()))
	p.check()
}

// seen is what others are told.
type seen struct {
	on      bool
	store   bool
	known   []uint64
	lasting string
	now     uint64
	pending []uint64
	waits   string
}

func look(y *yard.Yard) seen {
	s := y.Store()
	l := seen{on: y.Disk().On(), store: s != nil, known: s.Known(), lasting: lasting(s), now: s.Now()}
	for _, id := range l.known {
		l.waits += fmt.Sprint(s.Waits(id))
		if s.Pending(id) {
			l.pending = append(l.pending, id)
		}
	}
	return l
}

func (l seen) String() string {
	return fmt.Sprint(l.store, l.known, l.lasting, l.now, l.pending, l.waits)
}

// power notes which step was under way when the power went.
func (p *play) power(before, after seen, e yard.Event) {
	p.t.Helper()
	is(p.t, eventText(e)+": is Gone", e.Reply.Answer == api.Gone, !after.on || !after.store)
	if before.on && before.store && !after.on {
		p.story.pending = &e
	}
}

// refused fails if a refusal has changed what others are told (P21.5).
func (p *play) refused(before, after seen, e yard.Event) {
	p.t.Helper()
	self := func(id uint64) bool { return id == e.Step.ID }
	switch e.Reply.Answer {
	case api.TimedOut:
		before.pending = slices.DeleteFunc(before.pending, self)
	case api.Deadlock, api.Expired:
		// Whoever dies now has others go on; whoever was dead already has not.
		if _, ok := p.watch.dead[e.Step.ID]; !ok {
			is(p.t, eventText(e)+": what lasts", after.lasting, before.lasting)
			return
		}
	}
	is(p.t, eventText(e)+": what is told", after.String(), before.String())
}

// settle fails unless nobody is pending behind as many ticks as the longest wait, and one (P21.6).
func (p *play) settle() {
	p.t.Helper()
	s := p.y.Store()
	if !s.Up() {
		return
	}
	before, most := len(p.y.Events()), p.watch.longest()+1
	if count := p.y.Settle(most); count > most || count < 0 {
		p.t.Errorf("Settle(%d) = %d", most, count)
	}
	for _, e := range p.y.Events()[before:] {
		p.noted = append(p.noted, e)
		p.count[word(e.Reply.Answer)]++
		p.add(e)
	}
	for _, id := range s.Known() {
		is(p.t, "Pending", s.Pending(id), false)
		ids(p.t, "Waits", s.Waits(id))
	}
	is(p.t, "Settle of nobody", p.y.Settle(most), 0)
	p.check()
}

// Long runs of steps, by a source of numbers that are always the same.
func TestRuns(t *testing.T) {
	count := map[string]int{}
	for seed := range int64(250) {
		p := somePlay(t, seed)
		p.count = count
		for step := range 300 {
			p.take(p.roll())
			if p.r.Intn(60) == 0 {
				p.settle()
			}
			if t.Failed() {
				t.Fatalf("run %d, step %d: %s", seed, step, eventText(p.last()))
			}
		}
		is(t, "what was noted", eventsText(p.y.Events()), eventsText(p.noted))
	}
	for _, w := range append(words, "opened", "not opened", "under way") {
		if count[w] == 0 {
			t.Errorf("%s never was", w)
		}
	}
}

// Settle is steps as others are: so many, in that order, that those of it do the same.
func TestSettleIsSteps(t *testing.T) {
	for seed := range int64(150) {
		p, twin := somePlay(t, seed), somePlay(t, seed)
		for range 80 {
			s := someStep(p.r, p.y.Store())
			p.y.Step(s)
			twin.y.Step(s)
			if p.r.Intn(15) > 0 {
				continue
			}
			most := p.r.Intn(12) - 1
			is(t, "Settle", p.y.Settle(most), settleBySteps(twin.y, most))
			is(t, "what was noted", eventsText(p.y.Events()), eventsText(twin.y.Events()))
			is(t, "told", told(p.y.Store()), told(twin.y.Store()))
		}
		if t.Failed() {
			t.Fatalf("run %d", seed)
		}
	}
}

// settleBySteps does what Settle does, by Step.
func settleBySteps(y *yard.Yard, most int) int {
	count := 0
	for ; count < most; count++ {
		s := y.Store()
		if !slices.ContainsFunc(s.Known(), func(id uint64) bool { return s.Pending(id) }) {
			break
		}
		y.Step(by(yard.Tick, 1))
		for _, id := range s.Known() {
			if s.Pending(id) {
				y.Step(run(id))
			}
		}
	}
	return count
}

// The same steps make the same events.
func TestSameStepsSameEvents(t *testing.T) {
	for seed := range int64(20) {
		text := func() string {
			p := somePlay(t, seed)
			for range 200 {
				p.y.Step(someStep(p.r, p.y.Store()))
			}
			return eventsText(p.y.Events()) + told(p.y.Store()) + diskText(p.y.Disk())
		}
		is(t, "the events", text(), text())
	}
}
