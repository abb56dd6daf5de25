package txn_test

import (
	"fmt"
	"math"
	"testing"

	"bartizan/api"
	"bartizan/disk"
	"bartizan/engine"
	"bartizan/txn"
)

func TestFormat(t *testing.T) {
	d, err := disk.New(1000)
	ok(t, err)
	is(t, "of nil", txn.Format(nil, api.MaxSeq+1), api.ErrNone)
	is(t, "of a great number", txn.Format(d, api.MaxSeq+1), api.ErrSeq)
	is(t, "of a disk", txn.Format(d, api.MaxSeq), api.OK)
	is(t, "again", txn.Format(d, 0), api.ErrExists)
	e, err := engine.Open(d)
	ok(t, err)
	is(t, "Last", e.Last(), api.MaxSeq)
}

func TestOpenRefuses(t *testing.T) {
	empty, err := disk.New(1000)
	ok(t, err)
	off, err := disk.New(1000)
	ok(t, err, txn.Format(off, 0), off.Arm(1))
	is(t, "the power", off.Create("x"), api.ErrDown)
	full, err := disk.New(1000)
	ok(t, err, txn.Format(full, 0))
	right := txn.Config{Locks: 1, Each: 1}
	for _, c := range []struct {
		what string
		d    *disk.Disk
		c    txn.Config
		want api.Errno
	}{
		{"nil", nil, right, api.ErrNone},
		{"nil, of a wrong Config", nil, txn.Config{}, api.ErrNone},
		{"no store", empty, right, api.ErrForm},
		{"no store, of a wrong Config", empty, txn.Config{}, api.ErrArg},
		{"no power", off, right, api.ErrDown},
		{"no power, of a wrong Config", off, txn.Config{}, api.ErrArg},
		{"no Locks", full, txn.Config{Locks: 0, Each: 1}, api.ErrArg},
		{"no Each", full, txn.Config{Locks: 1, Each: 0}, api.ErrArg},
		{"Locks below 0", full, txn.Config{Locks: -1, Each: 1}, api.ErrArg},
		{"Each below 0", full, txn.Config{Locks: 1, Each: math.MinInt}, api.ErrArg},
		{"too many Locks", full, txn.Config{Locks: api.MaxLocks + 1, Each: 1}, api.ErrArg},
		{"too many Each", full, txn.Config{Locks: 1, Each: api.MaxLocks + 1}, api.ErrArg},
	} {
		changes := c.d.Changes()
		s, err := txn.Open(c.d, c.c)
		if s != nil || err != c.want {
			t.Errorf("%s: %v, %d, want %d", c.what, s, err, c.want)
		}
		is(t, c.what+": changes", c.d.Changes(), changes)
	}
	for _, c := range []txn.Config{right, wide(), {Locks: 1, Each: api.MaxLocks}, {Locks: api.MaxLocks, Each: 1}} {
		if s, err := txn.Open(full, c); s == nil || err != api.OK {
			t.Errorf("Open(%v) answered %d", c, err)
		}
	}
}

// Whatever the room is, the errors are the engine's.
func TestOpenAndFormatWithoutRoom(t *testing.T) {
	seen := map[api.Errno]int{}
	for size := 1; size < 400; size++ {
		a, err := disk.New(size)
		b, other := disk.New(size)
		ok(t, err, other)
		is(t, "Format", txn.Format(a, 0), engine.Format(b, 0))
		s, err := txn.Open(a, wide())
		_, want := engine.Open(b)
		is(t, fmt.Sprint("Open of ", size), err, want)
		is(t, "is a store", s != nil, want == api.OK)
		seen[want]++
	}
	if seen[api.ErrForm] == 0 || seen[api.ErrFull] == 0 || seen[api.OK] == 0 {
		t.Errorf("errors: %v", seen)
	}
}

func TestOpenOfAnEmptyStore(t *testing.T) {
	x := fresh(t)
	is(t, "told", told(x.s), "[]|||0")
	is(t, "Up", x.s.Up(), true)
	is(t, "the first number", x.beginFor(1, 1), 1)
	is(t, "the second number", x.beginFor(1, 1), 2)
}

// held prepares batches by the engine, ahead of a store.
func held(t *testing.T, room int, l ...engine.Held) *disk.Disk {
	t.Helper()
	d, err := disk.New(room)
	ok(t, err, engine.Format(d, 0))
	e, err := engine.Open(d)
	ok(t, err)
	for _, h := range l {
		ok(t, e.Prepare(h.Name, h.Ops))
	}
	return d
}

func op(kind byte, key, value string) api.Op {
	return api.Op{Kind: kind, Key: []byte(key), Value: []byte(value)}
}

func TestOpenTakesUpWhatIsHeld(t *testing.T) {
	d := held(t, api.MaxDisk,
		engine.Held{Name: []byte("q"), Ops: []api.Op{op(api.Put, "b", "1"), op(api.Range, "d", "f"), op(api.Delete, "h", "")}},
		engine.Held{Name: []byte("p"), Ops: []api.Op{op(api.Put, "a", "2")}},
		engine.Held{Name: []byte("r")})
	x := &stage{t: t, d: d, c: wide()}
	x.open()
	ids(t, "Known", x.s.Known(), 1, 2, 3)
	is(t, "Held", heldText(x.s), "p(2:a:2) q(2:b:1,3:d:f,1:h:) r()")
	is(t, "Now", x.s.Now(), 0)
	for id := range uint64(5) {
		is(t, fmt.Sprint("Pending of ", id), x.s.Pending(id), false)
	}
	for _, c := range []struct {
		q     txn.Request
		want  string
		waits []uint64
	}{
		{get("a"), "waiting", []uint64{1}},
		{get("a\x00"), "not-found", nil},
		{get("b"), "waiting", []uint64{2}},
		{claim("b"), "waiting", []uint64{2}},
		{scan("", "", 9), "waiting", []uint64{1, 2}},
		{scan("", "a", 9), "ok", nil},
		{scan("a", "b", 9), "waiting", []uint64{1}},
		{put("c", ""), "ok", nil},
		{put("d", ""), "waiting", []uint64{2}},
		{put("e\xff", ""), "waiting", []uint64{2}},
		{put("f", ""), "ok", nil},
		{span("f", "h"), "ok", nil},
		{span("f", "h\x00"), "waiting", []uint64{2}},
		{get("h"), "waiting", []uint64{2}},
	} {
		x.open()
		id := x.beginFor(1, 100)
		is(t, "the next number", id, 4)
		x.do(id, c.q, c.want)
		ids(t, "Waits "+requestText(c.q), x.s.Waits(id), c.waits...)
	}
	x.open()
	x.do(1, get("a"), "bad-state")
	x.do(3, prepare("s"), "bad-state")
	x.do(1, plainly(txn.Commit), "ok")
	x.do(2, plainly(txn.Rollback), "ok")
	x.decide("r", true, "ok")
	x.has("a=2")
	is(t, "Held", heldText(x.s), "")
	ids(t, "Known", x.s.Known())
}

// The numbers and the locks hang on the names, not on the order in which they were prepared.
func TestOpenByRisingNames(t *testing.T) {
	names := []string{"b", "a\xff", "a", "\xff", "aa", "\x00"}
	var l []engine.Held
	for _, n := range names {
		l = append(l, engine.Held{Name: []byte(n), Ops: []api.Op{op(api.Put, n, "")}})
	}
	x := &stage{t: t, d: held(t, api.MaxDisk, l...), c: wide()}
	x.open()
	for i, n := range []string{"\x00", "a", "aa", "a\xff", "b", "\xff"} {
		id := x.beginFor(1, 10)
		x.do(id, get(n), "waiting")
		ids(t, fmt.Sprintf("Waits of %q", n), x.s.Waits(id), uint64(i+1))
	}
}

// What is held has its locks, whatever the limits; for others these hold.
func TestOpenBeyondTheLimits(t *testing.T) {
	var many []engine.Held
	for i := range api.MaxTxns + 3 {
		many = append(many, engine.Held{Name: fmt.Appendf(nil, "n%02d", i), Ops: []api.Op{op(api.Put, fmt.Sprintf("k%02d", i), "v"), op(api.Put, fmt.Sprintf("l%02d", i), "v")}})
	}
	x := &stage{t: t, d: held(t, api.MaxDisk, many...), c: txn.Config{Locks: 5, Each: 1}}
	x.open()
	is(t, "Known", len(x.s.Known()), api.MaxTxns+3)
	id, answer := x.s.Begin(1, 1)
	is(t, "Begin", word(answer), "lock-limit")
	is(t, "its number", id, 0)
	for i := range api.MaxTxns + 1 {
		x.decide(fmt.Sprintf("n%02d", i), false, "ok")
	}
	mine := x.beginFor(1, 10)
	is(t, "the next number", mine, api.MaxTxns+4)
	// Two are left, with two locks each: of five one is free.
	x.do(mine, get("a"), "not-found")
	other := x.beginFor(1, 10)
	x.do(other, get("b"), "lock-limit")
	x.do(other, get("k33"), "lock-limit")
	x.do(mine, plainly(txn.Commit), "ok")
	x.do(other, get("k33"), "waiting")
	ids(t, "Waits", x.s.Waits(other), 34)
}

// Opened again it is the same.
func TestOpenTwice(t *testing.T) {
	x := fresh(t)
	x.write(put("a", "1"), put("b", "2"))
	x.begin(3)
	x.do(2, put("c", "3"), "ok")
	x.do(3, del("a"), "ok")
	x.do(3, prepare("p"), "ok")
	x.do(4, put("d", "4"), "ok")
	for range 3 {
		x.open()
		is(t, "told", told(x.s), "[1]|p(1:a:)|a=1 b=2|0")
	}
	x.decide("p", true, "ok")
	x.open()
	is(t, "told", told(x.s), "[]||b=2|0")
}

// A store that wasn't opened is gone, and has nothing.
func TestNilStore(t *testing.T) {
	var s *txn.Store
	x := &stage{t: t, s: s}
	id, answer := s.Begin(0, 0)
	is(t, "Begin's number", id, 0)
	is(t, "Begin", word(answer), "gone")
	for kind := range 15 {
		x.do(1, txn.Request{Kind: byte(kind), Key: []byte("a"), To: []byte("b"), Name: []byte("p")}, "gone")
	}
	x.run(1, "gone")
	x.decide("p", true, "gone")
	x.tick(0, "gone")
	x.tick(1, "gone")
	is(t, "Flush", word(s.Flush()), "gone")
	is(t, "Compact", word(s.Compact(0)), "gone")
	is(t, "Compact of none", word(s.Compact(-1)), "gone")
	is(t, "told", told(s), "[]|||0")
	is(t, "Up", s.Up(), false)
	if s.Known() != nil || s.Held() != nil || s.All() != nil || s.Waits(1) != nil {
		t.Error("it has something")
	}
}
