package locks_test

import (
	"bytes"
	"testing"

	"bartizan/api"
)

// spare makes bytes with spare room behind them, all of which is known.
func spare(s string) []byte {
	p := bytes.Repeat([]byte{0xa5}, len(s)+8)
	copy(p, s)
	return p[:len(s)]
}

// spoil writes over bytes and their spare room.
func spoil(p []byte) {
	p = p[:cap(p)]
	for i := range p {
		p[i] ^= 0x5a
	}
}

func spoilLock(l api.Lock) {
	spoil(l.From)
	spoil(l.To)
}

func spoilIDs(l []uint64) {
	l = l[:cap(l)]
	for i := range l {
		l[i] = 777
	}
}

// What is handed in is neither changed nor kept.
func TestArguments(t *testing.T) {
	x := roomy(t)
	handed := func(l api.Lock, call func(api.Lock)) {
		t.Helper()
		own := api.Lock{Txn: l.Txn, From: spare(string(l.From)), To: spare(string(l.To)), Mode: l.Mode}
		call(own)
		for i, p := range [][]byte{own.From, own.To} {
			want := spare(string([][]byte{l.From, l.To}[i]))
			if !bytes.Equal(p[:cap(p)], want[:cap(want)]) {
				t.Errorf("%s: an argument has changed: %q", tell(l), p[:cap(p)])
			}
		}
		spoilLock(own)
	}
	handed(lock(1, "b", "d", exclusive), func(l api.Lock) { asks(t, x, l, api.Fine) })
	handed(lock(2, "c", "e", exclusive), func(l api.Lock) { asks(t, x, l, api.Waiting) })
	handed(lock(1, "b", "c", shared), func(l api.Lock) { asks(t, x, l, api.Fine) })
	handed(lock(3, "x", "z", exclusive), func(l api.Lock) { forces(t, x, l) })
	handed(lock(4, "z", "x", exclusive), func(l api.Lock) { asks(t, x, l, api.BadState) })
	granted(t, x, 1, lock(1, "b", "d", exclusive))
	granted(t, x, 3, lock(3, "x", "z", exclusive))
	if l, ok := x.Waits(2); !ok || !same(l, lock(2, "c", "e", exclusive)) {
		t.Errorf("Waits = %s, %t", tell(l), ok)
	}
	ids(t, "Release(1)", x.Release(1), 2)
	granted(t, x, 2, lock(2, "c", "e", exclusive))
}

// An answer is new memory: whoever writes over it changes nothing.
func TestAnswers(t *testing.T) {
	x := roomy(t)
	asks(t, x, lock(1, "b", "d", exclusive), api.Fine)
	asks(t, x, lock(1, "f", "g", exclusive), api.Fine)
	asks(t, x, lock(2, "c", "e", exclusive), api.Waiting)
	asks(t, x, lock(3, "a", "c", shared), api.Waiting)
	before := told(x)
	for range 2 {
		for _, l := range x.Granted(1) {
			spoilLock(l)
		}
		l, _ := x.Waits(2)
		spoilLock(l)
		spoilIDs(x.Blockers(2))
		spoilIDs(x.Queue())
		unchanged(t, x, before)
	}
	l := x.Granted(1)
	spoilLock(l[0])
	if !same(l[1], lock(1, "f", "g", exclusive)) {
		t.Errorf("two locks of one answer share memory: %s", tell(l[1]))
	}
	whose := x.Release(1)
	spoilIDs(whose)
	granted(t, x, 2, lock(2, "c", "e", exclusive))
	granted(t, x, 3, lock(3, "a", "c", shared))
	spoilIDs(x.Leave(1))
	late, passed := x.Tick(1)
	spoilIDs(late)
	spoilIDs(passed)
	granted(t, x, 2, lock(2, "c", "e", exclusive))
}
