package engine_test

import (
	"bytes"
	"testing"

	"bartizan/api"
)

// roomy copies p in front of spare room whose bytes are known.
func roomy(p string) []byte {
	q := bytes.Repeat([]byte{0xa5}, len(p)+16)
	copy(q, p)
	return q[:len(p)]
}

// untouched tells whether q, which roomy made of p, is as it was.
func untouched(q []byte, p string) bool {
	return bytes.Equal(q[:len(p)+16], append([]byte(p), bytes.Repeat([]byte{0xa5}, 16)...))
}

// spoil writes over bytes and their spare room.
func spoil(l ...[]byte) {
	for _, p := range l {
		p = p[:cap(p)]
		for i := range p {
			p[i] = 0x5a
		}
	}
}

func TestMemoryOfWhatIsHandedIn(t *testing.T) {
	e, d := store(t, 0)
	key, value, from, to, name, heights := roomy("a"), roomy("x"), roomy("b"), roomy("c"), roomy("p"), []int{2, 3, 77}
	l := ops(api.Op{Kind: api.Put, Key: key, Value: value}, api.Op{Kind: api.Range, Key: from, Value: to}, put("behind", ""))
	fine(t, e.Write(l[:2], heights[:2]...), e.Prepare(name, l[:2]))
	e.Get(key, 9)
	e.Scan(from, to, 9, false, 9)
	if !untouched(key, "a") || !untouched(value, "x") || !untouched(from, "b") || !untouched(to, "c") || !untouched(name, "p") {
		t.Errorf("an argument has changed: %q, %q, %q, %q, %q", key, value, from, to, name)
	}
	if string(l[2].Key) != "behind" || heights[2] != 77 || heights[0] != 2 {
		t.Errorf("an argument has changed: %v, %v", l, heights)
	}
	spoil(key, value, from, to, name)
	clear(l)
	clear(heights)
	for range 2 {
		if all(e, api.MaxSeq) != "a=x" || held(e) != "p(2:a:x,3:b:c)" {
			t.Errorf("%s", told(e))
		}
		e = open(t, d)
	}
	again := roomy("p")
	fine(t, e.Commit(again))
	spoil(again)
	fine(t, e.Flush(), e.Compact(0))
	if all(e, api.MaxSeq) != "a=x" || held(e) != "" || e.Last() != 4 {
		t.Errorf("%s", told(e))
	}
}

func TestMemoryOfAnswers(t *testing.T) {
	e, _ := store(t, 0)
	fine(t, e.Write(ops(put("a", "1"), put("b", "2"))), e.Flush(), e.Compact(0), e.Compact(1))
	fine(t, e.Write(ops(put("c", "3"))), e.Flush(), e.Compact(0))
	fine(t, e.Write(ops(put("d", "4"))), e.Flush(), e.Write(ops(put("e", "5"))))
	fine(t, e.Prepare([]byte("p"), ops(put("x", "y"), span("a", "b"))), e.Prepare([]byte("q"), nil))
	before := told(e)
	for _, key := range []string{"a", "b", "c", "d", "e"} {
		v, _ := e.Get([]byte(key), api.MaxSeq)
		w, _ := e.Get([]byte(key), api.MaxSeq)
		spoil(v)
		if bytes.Equal(v, w) {
			t.Errorf("two answers share memory: %q", w)
		}
	}
	l, other := e.Scan(nil, nil, 9, false, api.MaxSeq), e.Scan(nil, nil, 9, false, api.MaxSeq)
	for i := range l {
		spoil(l[i].Key)
		if string(l[i].Value) == "\x5a" {
			t.Errorf("texts of one answer share memory: %v", l)
		}
		spoil(l[i].Value)
	}
	clear(l[:cap(l)])
	if text(other) != "a=1 b=2 c=3 d=4 e=5" {
		t.Errorf("two answers share memory: %s", text(other))
	}
	h, rest := e.Held(), e.Held()
	for i := range h {
		spoil(h[i].Name)
		for j := range h[i].Ops {
			spoil(h[i].Ops[j].Key, h[i].Ops[j].Value)
		}
		clear(h[i].Ops[:cap(h[i].Ops)])
	}
	clear(h[:cap(h)])
	if string(rest[0].Name) != "p" || opText(rest[0].Ops) != "2:x:y,3:a:b" || string(rest[1].Name) != "q" {
		t.Errorf("two answers share memory: %v", rest)
	}
	if told(e) != before {
		t.Errorf("%s, before %s", told(e), before)
	}
}

// Two stores on two disks have nothing in common.
func TestStoresAreApart(t *testing.T) {
	a, d := store(t, 0)
	b, _ := store(t, 0)
	before := told(b)
	fine(t, a.Write(ops(put("a", "x"))), a.Prepare([]byte("p"), nil), a.Flush(), d.Arm(1))
	a.Pin()
	is(t, "Write", a.Write(ops(put("b", "x"))), api.ErrDown)
	if told(b) != before || !b.Up() {
		t.Errorf("%s, before %s", told(b), before)
	}
	is(t, "Unpin", b.Unpin(1), api.ErrNone)
}
