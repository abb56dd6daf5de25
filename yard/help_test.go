package yard_test

import (
	"fmt"
	"slices"
	"strings"
	"testing"

	"bartizan/api"
	"bartizan/disk"
	"bartizan/txn"
	"bartizan/yard"
)

func get(key string) txn.Request {
	return txn.Request{Kind: txn.Get, Key: []byte(key)}
}

func claim(key string) txn.Request {
	return txn.Request{Kind: txn.Claim, Key: []byte(key)}
}

func put(key, value string) txn.Request {
	return txn.Request{Kind: txn.Put, Key: []byte(key), Value: []byte(value)}
}

func del(key string) txn.Request {
	return txn.Request{Kind: txn.Delete, Key: []byte(key)}
}

func span(from, to string) txn.Request {
	return txn.Request{Kind: txn.Range, Key: []byte(from), To: []byte(to)}
}

func scan(from, to string, most int) txn.Request {
	return txn.Request{Kind: txn.Scan, Key: []byte(from), To: []byte(to), Most: most}
}

func prepare(name string) txn.Request {
	return txn.Request{Kind: txn.Prepare, Name: []byte(name)}
}

func plainly(kind byte) txn.Request {
	return txn.Request{Kind: kind}
}

// The steps.

func begin(wait, life int) yard.Step {
	return yard.Step{Kind: yard.Begin, N: wait, Life: life}
}

func do(id uint64, q txn.Request) yard.Step {
	return yard.Step{Kind: yard.Do, ID: id, Q: q}
}

func run(id uint64) yard.Step {
	return yard.Step{Kind: yard.Run, ID: id}
}

func decide(name string, commit bool) yard.Step {
	return yard.Step{Kind: yard.Decide, Q: txn.Request{Name: []byte(name)}, Commit: commit}
}

// by is a step that has nothing but a number.
func by(kind byte, n int) yard.Step {
	return yard.Step{Kind: kind, N: n}
}

func crash(torn int, keep ...int) yard.Step {
	return yard.Step{Kind: yard.Crash, N: torn, Keep: keep}
}

// words are the answers, by their numbers.
var words = []string{"ok", "value", "not-found", "waiting", "busy", "timed-out", "deadlock", "lock-limit",
	"expired", "bad-state", "duplicate", "too-large", "disk-full", "stalled", "exhausted", "gone"}

func word(a api.Answer) string {
	return words[a]
}

// pairText tells pairs.
func pairText(l []api.Pair) string {
	var all []string
	for _, p := range l {
		all = append(all, string(p.Key)+"="+string(p.Value))
	}
	return strings.Join(all, " ")
}

// replyText tells a reply: its word, its value or pairs.
func replyText(r txn.Reply) string {
	return strings.TrimSpace(word(r.Answer) + " " + string(r.Value) + pairText(r.Pairs))
}

func opText(l []api.Op) string {
	var all []string
	for _, o := range l {
		all = append(all, fmt.Sprintf("%d:%s:%s", o.Kind, o.Key, o.Value))
	}
	return strings.Join(all, ",")
}

// heldText tells what a store holds.
func heldText(s *txn.Store) string {
	var all []string
	for _, h := range s.Held() {
		all = append(all, string(h.Name)+"("+opText(h.Ops)+")")
	}
	return strings.Join(all, " ")
}

// lasting tells what lasts of a store.
func lasting(s *txn.Store) string {
	return pairText(s.All()) + "|" + heldText(s)
}

// told is all that a store tells of itself and of the transactions up to 99.
func told(s *txn.Store) string {
	var b strings.Builder
	fmt.Fprint(&b, s == nil, s.Up(), s.Known(), "|", lasting(s), "|", s.Now())
	for id := range uint64(100) {
		if s.Pending(id) || len(s.Waits(id)) > 0 {
			fmt.Fprint(&b, "|", id, s.Pending(id), s.Waits(id))
		}
	}
	return b.String()
}

// diskText is all that a disk tells.
func diskText(d *disk.Disk) string {
	var b strings.Builder
	fmt.Fprint(&b, d.On(), d.Changes(), d.Used())
	for _, name := range d.List() {
		p, err := d.Read(name)
		fmt.Fprintf(&b, "\n%s %d %x", name, err, p)
	}
	return b.String()
}

func stepText(s yard.Step) string {
	q := s.Q
	return fmt.Sprintf("{%d %d {%d %q %q to %q, %d %t %q} %d %d %t %v}",
		s.Kind, s.ID, q.Kind, q.Key, q.Value, q.To, q.Most, q.Back, q.Name, s.N, s.Life, s.Commit, s.Keep)
}

func eventText(e yard.Event) string {
	return fmt.Sprintf("%s: %d %s", stepText(e.Step), e.ID, replyText(e.Reply))
}

// eventsText tells events, a line each.
func eventsText(l []yard.Event) string {
	var all []string
	for _, e := range l {
		all = append(all, eventText(e))
	}
	return strings.Join(all, "\n")
}

// ok fails unless nothing was refused.
func ok(t *testing.T, errs ...api.Errno) {
	t.Helper()
	for i, err := range errs {
		if err != api.OK {
			t.Fatalf("call %d answered %d", i, err)
		}
	}
}

// is fails unless what is told is what is wanted.
func is[T comparable](t *testing.T, what string, got, want T) {
	t.Helper()
	if got != want {
		t.Errorf("%s: %v, want %v", what, got, want)
	}
}

// ids fails unless the list has just these, in that order.
func ids(t *testing.T, what string, got []uint64, want ...uint64) {
	t.Helper()
	if !slices.Equal(got, want) {
		t.Errorf("%s: %v, want %v", what, got, want)
	}
}

// stage is a yard.
type stage struct {
	t *testing.T
	y *yard.Yard
}

// wide is the Config of the greatest room and limits.
func wide() yard.Config {
	return yard.Config{Room: api.MaxDisk, Txn: txn.Config{Locks: api.MaxLocks, Each: api.MaxLocks}}
}

// newStage answers a new yard of that Config.
func newStage(t *testing.T, c yard.Config) *stage {
	t.Helper()
	y, err := yard.New(c)
	if err != api.OK || y == nil {
		t.Fatalf("New(%v) = %v, %d", c, y, err)
	}
	return &stage{t, y}
}

func fresh(t *testing.T) *stage {
	t.Helper()
	return newStage(t, wide())
}

// step fails unless the step is answered so; it answers the event.
func (x *stage) step(s yard.Step, want string) yard.Event {
	x.t.Helper()
	e, err := x.y.Step(s)
	is(x.t, stepText(s)+" answered the error", err, api.OK)
	is(x.t, stepText(s), replyText(e.Reply), want)
	return e
}

// do fails unless the request is answered so.
func (x *stage) do(id uint64, q txn.Request, want string) {
	x.t.Helper()
	x.step(do(id, q), want)
}

// fails fails unless the step answers that error, and beside it nothing.
func (x *stage) fails(s yard.Step, want api.Errno) {
	x.t.Helper()
	e, err := x.y.Step(s)
	is(x.t, stepText(s)+" answered the error", err, want)
	is(x.t, stepText(s)+" answered beside the error", eventText(e), eventText(yard.Event{}))
}

// begin begins so many transactions that wait and live for long.
func (x *stage) begin(count int) {
	x.t.Helper()
	for range count {
		x.step(begin(1000, 100000), "ok")
	}
}

// write puts a pair, by a transaction of its own.
func (x *stage) write(key, value string) {
	x.t.Helper()
	id := x.step(begin(1, 1000), "ok").ID
	x.do(id, put(key, value), "ok")
	x.do(id, plainly(txn.Commit), "ok")
}

// has fails unless the store has these pairs and holds this.
func (x *stage) has(want string) {
	x.t.Helper()
	is(x.t, "what lasts", lasting(x.y.Store()), want)
}

// last answers the event that was noted last.
func (x *stage) last() yard.Event {
	x.t.Helper()
	l := x.y.Events()
	if len(l) == 0 {
		x.t.Fatal("nothing was noted")
	}
	return l[len(l)-1]
}
