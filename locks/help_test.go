package locks_test

import (
	"bytes"
	"fmt"
	"slices"
	"strings"
	"testing"

	"bartizan/api"
	"bartizan/locks"
)

const (
	shared    = api.Shared
	update    = api.Update
	exclusive = api.Exclusive
	far       = 1 << 40 // a tick that no test comes to
)

// lock makes one.
func lock(txn uint64, from, to string, mode byte) api.Lock {
	return api.Lock{Txn: txn, From: []byte(from), To: []byte(to), Mode: mode}
}

// key makes a lock of one key.
func key(txn uint64, k string, mode byte) api.Lock {
	return lock(txn, k, k+"\x00", mode)
}

// roomy makes a table of the greatest limits.
func roomy(t *testing.T) *locks.Table {
	t.Helper()
	return limited(t, api.MaxLocks, api.MaxLocks)
}

// limited makes a table of these limits.
func limited(t *testing.T, most, each int) *locks.Table {
	t.Helper()
	x, err := locks.New(most, each)
	if x == nil || err != api.OK {
		t.Fatalf("New(%d, %d) = %v, %d", most, each, x, err)
	}
	return x
}

// asks fails unless the request is answered so.
func asks(t *testing.T, x *locks.Table, l api.Lock, want api.Answer) {
	t.Helper()
	if got := x.Ask(l, far); got != want {
		t.Errorf("Ask(%s) = %d, want %d", tell(l), got, want)
	}
}

// forces fails unless the lock is granted.
func forces(t *testing.T, x *locks.Table, l api.Lock) {
	t.Helper()
	if err := x.Force(l); err != api.OK {
		t.Errorf("Force(%s) = %d", tell(l), err)
	}
}

// ids fails unless the list has just these transactions, in that order.
func ids(t *testing.T, what string, got []uint64, want ...uint64) {
	t.Helper()
	if !slices.Equal(got, want) {
		t.Errorf("%s = %v, want %v", what, got, want)
	}
}

// victim fails unless that is the victim (0: there is none).
func victim(t *testing.T, x *locks.Table, txn, want uint64) {
	t.Helper()
	if v, ok := x.Victim(txn); v != want || ok != (want != 0) {
		t.Errorf("Victim(%d) = %d, %t, want %d", txn, v, ok, want)
	}
}

// granted fails unless the transaction has just these locks, in that order.
func granted(t *testing.T, x *locks.Table, txn uint64, want ...api.Lock) {
	t.Helper()
	if got := x.Granted(txn); !slices.EqualFunc(got, want, same) {
		t.Errorf("Granted(%d) = %s, want %s", txn, tell(got...), tell(want...))
	}
}

func same(a, b api.Lock) bool {
	return a.Txn == b.Txn && a.Mode == b.Mode && bytes.Equal(a.From, b.From) && bytes.Equal(a.To, b.To)
}

// tell tells locks.
func tell(l ...api.Lock) string {
	var all []string
	for _, x := range l {
		all = append(all, fmt.Sprintf("%d:%q-%q:%d", x.Txn, x.From, x.To, x.Mode))
	}
	return strings.Join(all, " ")
}

// told is all that a table tells of the transactions up to 9.
func told(x *locks.Table) string {
	var b strings.Builder
	fmt.Fprint(&b, x.Len(), x.Queue())
	for txn := range uint64(10) {
		l, ok := x.Waits(txn)
		v, ring := x.Victim(txn)
		fmt.Fprintf(&b, "|%s;%s %t;%v;%d %t", tell(x.Granted(txn)...), tell(l), ok, x.Blockers(txn), v, ring)
	}
	return b.String()
}

// unchanged fails unless the table tells what it told.
func unchanged(t *testing.T, x *locks.Table, before string) {
	t.Helper()
	if got := told(x); got != before {
		t.Errorf("it tells %s, before %s", got, before)
	}
}
