package txn_test

import (
	"fmt"
	"slices"
	"strings"
	"testing"

	"bartizan/api"
	"bartizan/disk"
	"bartizan/txn"
)

func get(key string) txn.Request {
	return txn.Request{Kind: txn.Get, Key: []byte(key)}
}

func claim(key string) txn.Request {
	return txn.Request{Kind: txn.Claim, Key: []byte(key)}
}

func put(key, value string) txn.Request {
	return txn.Request{Kind: txn.Put, Key: []byte(key), Value: []byte(value)}
}

func del(key string) txn.Request {
	return txn.Request{Kind: txn.Delete, Key: []byte(key)}
}

func span(from, to string) txn.Request {
	return txn.Request{Kind: txn.Range, Key: []byte(from), To: []byte(to)}
}

func scan(from, to string, most int) txn.Request {
	return txn.Request{Kind: txn.Scan, Key: []byte(from), To: []byte(to), Most: most}
}

func backScan(from, to string, most int) txn.Request {
	return txn.Request{Kind: txn.Scan, Key: []byte(from), To: []byte(to), Most: most, Back: true}
}

func prepare(name string) txn.Request {
	return txn.Request{Kind: txn.Prepare, Name: []byte(name)}
}

func plainly(kind byte) txn.Request {
	return txn.Request{Kind: kind}
}

// words are the answers, by their numbers.
var words = []string{"ok", "value", "not-found", "waiting", "busy", "timed-out", "deadlock", "lock-limit",
	"expired", "bad-state", "duplicate", "too-large", "disk-full", "stalled", "exhausted", "gone"}

func word(a api.Answer) string {
	return words[a]
}

// pairText tells pairs.
func pairText(l []api.Pair) string {
	var all []string
	for _, p := range l {
		all = append(all, string(p.Key)+"="+string(p.Value))
	}
	return strings.Join(all, " ")
}

// replyText tells a reply: its word, its value or pairs.
func replyText(r txn.Reply) string {
	return strings.TrimSpace(word(r.Answer) + " " + string(r.Value) + pairText(r.Pairs))
}

func opText(l []api.Op) string {
	var all []string
	for _, o := range l {
		all = append(all, fmt.Sprintf("%d:%s:%s", o.Kind, o.Key, o.Value))
	}
	return strings.Join(all, ",")
}

// heldText tells what a store holds.
func heldText(s *txn.Store) string {
	var all []string
	for _, h := range s.Held() {
		all = append(all, string(h.Name)+"("+opText(h.Ops)+")")
	}
	return strings.Join(all, " ")
}

// told is all that a store tells of itself and of the transactions up to 99.
func told(s *txn.Store) string {
	var b strings.Builder
	fmt.Fprint(&b, s.Known(), "|", heldText(s), "|", pairText(s.All()), "|", s.Now())
	for id := range uint64(100) {
		if s.Pending(id) || len(s.Waits(id)) > 0 {
			fmt.Fprint(&b, "|", id, s.Pending(id), s.Waits(id))
		}
	}
	return b.String()
}

// image is all that a disk has.
func image(t *testing.T, d *disk.Disk) string {
	t.Helper()
	var b strings.Builder
	for _, name := range d.List() {
		p, err := d.Read(name)
		ok(t, err)
		fmt.Fprintf(&b, "%s %x\n", name, p)
	}
	return b.String()
}

// ok fails unless nothing was refused.
func ok(t *testing.T, errs ...api.Errno) {
	t.Helper()
	for i, err := range errs {
		if err != api.OK {
			t.Fatalf("call %d answered %d", i, err)
		}
	}
}

// is fails unless what is told is what is wanted.
func is[T comparable](t *testing.T, what string, got, want T) {
	t.Helper()
	if got != want {
		t.Errorf("%s: %v, want %v", what, got, want)
	}
}

// ids fails unless the list has just these, in that order.
func ids(t *testing.T, what string, got []uint64, want ...uint64) {
	t.Helper()
	if !slices.Equal(got, want) {
		t.Errorf("%s: %v, want %v", what, got, want)
	}
}

// stage is a store on its disk.
type stage struct {
	t *testing.T
	d *disk.Disk
	c txn.Config
	s *txn.Store
}

// wide is the Config of the greatest limits.
func wide() txn.Config {
	return txn.Config{Locks: api.MaxLocks, Each: api.MaxLocks}
}

// newStage answers an empty store on a disk of that room.
func newStage(t *testing.T, room int, seq uint64, c txn.Config) *stage {
	t.Helper()
	d, err := disk.New(room)
	ok(t, err, txn.Format(d, seq))
	x := &stage{t: t, d: d, c: c}
	x.open()
	return x
}

// fresh answers an empty store of the greatest limits.
func fresh(t *testing.T) *stage {
	t.Helper()
	return newStage(t, api.MaxDisk, 0, wide())
}

// open opens the store anew.
func (x *stage) open() {
	x.t.Helper()
	s, err := txn.Open(x.d, x.c)
	if err != api.OK || s == nil {
		x.t.Fatalf("Open answered %d", err)
	}
	x.s = s
}

// begin begins so many transactions that wait and live for long.
func (x *stage) begin(count int) {
	x.t.Helper()
	for range count {
		x.beginFor(1000, 100000)
	}
}

// beginFor begins a transaction, and answers its number.
func (x *stage) beginFor(wait, life uint64) uint64 {
	x.t.Helper()
	id, answer := x.s.Begin(wait, life)
	if answer != api.Fine || id == 0 {
		x.t.Fatalf("Begin(%d, %d) = %d, %s", wait, life, id, word(answer))
	}
	return id
}

// do fails unless the request is answered so.
func (x *stage) do(id uint64, q txn.Request, want string) {
	x.t.Helper()
	if got := replyText(x.s.Do(id, q)); got != want {
		x.t.Errorf("Do(%d, %s) = %s, want %s", id, requestText(q), got, want)
	}
}

func requestText(q txn.Request) string {
	return fmt.Sprintf("{%d %q %q to %q, %d %t %q}", q.Kind, q.Key, q.Value, q.To, q.Most, q.Back, q.Name)
}

// run fails unless Run is answered so.
func (x *stage) run(id uint64, want string) {
	x.t.Helper()
	is(x.t, fmt.Sprintf("Run(%d)", id), replyText(x.s.Run(id)), want)
}

// decide fails unless Decide is answered so.
func (x *stage) decide(name string, commit bool, want string) {
	x.t.Helper()
	is(x.t, fmt.Sprintf("Decide(%q, %t)", name, commit), word(x.s.Decide([]byte(name), commit)), want)
}

// tick fails unless Tick is answered so.
func (x *stage) tick(now uint64, want string) {
	x.t.Helper()
	is(x.t, fmt.Sprintf("Tick(%d)", now), word(x.s.Tick(now)), want)
}

// has fails unless these are all pairs of the store.
func (x *stage) has(want string) {
	x.t.Helper()
	is(x.t, "All", pairText(x.s.All()), want)
}

// write puts pairs, one transaction for all.
func (x *stage) write(l ...txn.Request) {
	x.t.Helper()
	id := x.beginFor(1, 1000)
	for _, q := range l {
		x.do(id, q, "ok")
	}
	x.do(id, plainly(txn.Commit), "ok")
}

// refuses fails unless the request is answered so and nothing has changed.
func (x *stage) refuses(id uint64, q txn.Request, want string) {
	x.t.Helper()
	before, disk := told(x.s), image(x.t, x.d)
	x.do(id, q, want)
	is(x.t, "told behind "+requestText(q), told(x.s), before)
	is(x.t, "the disk behind "+requestText(q), image(x.t, x.d), disk)
}
