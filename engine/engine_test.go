package engine_test

import (
	"fmt"
	"math"
	"strings"
	"testing"

	"bartizan/api"
	"bartizan/disk"
	"bartizan/engine"
)

func TestExampleOfTheChapter(t *testing.T) {
	e, d := store(t, 0)
	fine(t, e.Write(ops(put("a", "x"))), e.Flush(), e.Write(ops(del("a"))), e.Compact(0))
	if v, ok := e.Get([]byte("a"), api.MaxSeq); ok || len(v) > 0 {
		t.Errorf("Get = %q, %t", v, ok)
	}
	fine(t, d.Crash(nil, 0))
	e = open(t, d)
	if v, ok := e.Get([]byte("a"), api.MaxSeq); ok || len(v) > 0 {
		t.Errorf("behind a crash Get = %q, %t", v, ok)
	}
}

func TestFormat(t *testing.T) {
	is(t, "Format of no disk", engine.Format(nil, math.MaxUint64), api.ErrNone)
	d := room(t, 1000)
	is(t, "Format above MaxSeq", engine.Format(d, api.MaxSeq+1), api.ErrSeq)
	is(t, "Format far above MaxSeq", engine.Format(d, math.MaxUint64), api.ErrSeq)
	if len(d.List()) > 0 {
		t.Errorf("a refused Format has made %v", d.List())
	}
	fine(t, d.Create("x"))
	is(t, "Format beside a file", engine.Format(d, 0), api.ErrExists)
	is(t, "Format above MaxSeq beside a file", engine.Format(d, api.MaxSeq+1), api.ErrSeq)
	fine(t, d.Delete("x"), engine.Format(d, 0))
	is(t, "Format of a store", engine.Format(d, 0), api.ErrExists)
	for _, seq := range []uint64{0, 1, 300, api.MaxSeq} {
		e, d := store(t, seq)
		if lasting(e) != newModel(seq).told() || !e.Fresh() || !e.Up() || e.Tables(0)+e.Tables(1)+e.Tables(2) > 0 {
			t.Errorf("a new store tells %s", told(e))
		}
		tidy(t, d, e)
	}
}

func TestFormatWithoutPower(t *testing.T) {
	d := room(t, 1000)
	fine(t, d.Arm(1))
	is(t, "Create", d.Create("x"), api.ErrDown)
	is(t, "Format", engine.Format(d, 0), api.ErrDown)
	is(t, "Format above MaxSeq", engine.Format(d, api.MaxSeq+1), api.ErrSeq)
	fine(t, d.Crash(nil, 0), d.Create("x"), d.Arm(1))
	is(t, "Create", d.Create("y"), api.ErrDown)
	is(t, "Format beside a file", engine.Format(d, 0), api.ErrExists)
}

func TestWriteRefuses(t *testing.T) {
	e, _ := store(t, 0)
	cases := []struct {
		what    string
		l       []api.Op
		heights []int
		want    api.Errno
	}{
		{"nothing", nil, nil, api.OK},
		{"nothing, of a wrong height", nil, []int{0}, api.OK},
		{"no kind", ops(api.Op{Key: []byte("a")}), nil, api.ErrArg},
		{"a kind above", ops(api.Op{Kind: 4, Key: []byte("a")}), nil, api.ErrArg},
		{"a long key", ops(put(strings.Repeat("a", 65), "")), nil, api.ErrLong},
		{"a long value", ops(put("a", strings.Repeat("a", 513))), nil, api.ErrLong},
		{"no key", ops(put("", "x")), nil, api.ErrForm},
		{"a delete with a value", ops(api.Op{Kind: api.Delete, Key: []byte("a"), Value: []byte("b")}), nil, api.ErrForm},
		{"a range that isn't one", ops(span("b", "b")), nil, api.ErrForm},
		{"too many", many(65, "a"), nil, api.ErrLong},
		{"the second one wrong", ops(put("a", "x"), put("", "x")), []int{0}, api.ErrForm},
		{"height 0", ops(put("a", "x")), []int{0}, api.ErrArg},
		{"height -1", ops(put("a", "x")), []int{math.MinInt}, api.ErrArg},
		{"height 9", ops(put("a", "x"), put("b", "x")), []int{1, 9}, api.ErrArg},
		{"height 9 of a range", ops(span("a", "b")), []int{9}, api.ErrArg},
	}
	for _, c := range cases {
		before := told(e)
		is(t, c.what, e.Write(c.l, c.heights...), c.want)
		if told(e) != before {
			t.Errorf("%s: %s, before %s", c.what, told(e), before)
		}
	}
	fine(t, e.Write(ops(put("a", "x")), 8), e.Write(ops(put("b", "y")), 1, 0, 99), e.Write(many(64, "c")))
	if all(e, api.MaxSeq) != "a=x b=y c=63" || e.Last() != 66 {
		t.Errorf("%s", told(e))
	}
}

// The ops of a batch have numbers of their own, in order.
func TestNumbers(t *testing.T) {
	e, _ := store(t, 5)
	at := e.Pin()
	fine(t, e.Write(ops(put("a", "1"), put("a", "2"), span("a", "b"), put("a", "3"), del("a"))))
	if e.Last() != 10 || at != 5 {
		t.Errorf("Last = %d, %d was pinned", e.Last(), at)
	}
	// As of a number that is neither pinned nor from Last on nothing is promised,
	// but the memo has forgotten nothing yet.
	for seq, want := range map[uint64]string{5: "", 6: "a=1", 7: "a=2", 8: "", 9: "a=3", 10: "", api.MaxSeq: ""} {
		if got := all(e, seq); got != want {
			t.Errorf("as of %d: %s, want %s", seq, got, want)
		}
	}
}

func TestPrepareRefuses(t *testing.T) {
	e, _ := store(t, 0)
	wrong := ops(put("", "x"))
	is(t, "no name", e.Prepare(nil, wrong), api.ErrArg)
	is(t, "a long name", e.Prepare([]byte(strings.Repeat("p", 33)), wrong), api.ErrLong)
	is(t, "wrong ops", e.Prepare([]byte("p"), wrong), api.ErrForm)
	is(t, "too many", e.Prepare([]byte("p"), many(65, "a")), api.ErrLong)
	is(t, "no kind", e.Prepare([]byte("p"), ops(api.Op{})), api.ErrArg)
	if held(e) != "" {
		t.Errorf("held: %s", held(e))
	}
	longest := strings.Repeat("p", 32)
	fine(t, e.Prepare([]byte("p"), ops(put("a", "x"))), e.Prepare([]byte(longest), nil), e.Prepare([]byte{0}, many(64, "a")))
	is(t, "a name that is held", e.Prepare([]byte("p"), nil), api.ErrExists)
	is(t, "wrong ops of a name that is held", e.Prepare([]byte("p"), wrong), api.ErrForm)
	if want := "\x00(" + opText(many(64, "a")) + ") p(2:a:x) " + longest + "()"; held(e) != want {
		t.Errorf("held: %s", held(e))
	}
	if e.Last() != 0 || !e.Fresh() || all(e, api.MaxSeq) != "" {
		t.Errorf("what is held is seen: %s", told(e))
	}
}

func TestCommitAndUndo(t *testing.T) {
	e, d := store(t, 0)
	for _, name := range []string{"", "p", strings.Repeat("p", 33)} {
		is(t, "Commit of nothing", e.Commit([]byte(name)), api.ErrNone)
		is(t, "Undo of nothing", e.Undo([]byte(name)), api.ErrNone)
	}
	fine(t, e.Prepare([]byte("p"), ops(put("a", "x"), put("b", "y"))), e.Prepare([]byte("q"), ops(put("a", "z"))), e.Prepare([]byte("r"), nil))
	fine(t, e.Write(ops(put("b", "w"))), e.Commit([]byte("p")))
	if all(e, api.MaxSeq) != "a=x b=y" || e.Last() != 3 || held(e) != "q(2:a:z) r()" {
		t.Errorf("%s", told(e))
	}
	is(t, "Commit once more", e.Commit([]byte("p")), api.ErrNone)
	fine(t, e.Undo([]byte("q")), e.Commit([]byte("r")))
	is(t, "Undo once more", e.Undo([]byte("q")), api.ErrNone)
	is(t, "Undo of what was committed", e.Undo([]byte("r")), api.ErrNone)
	if all(e, api.MaxSeq) != "a=x b=y" || e.Last() != 3 || held(e) != "" {
		t.Errorf("%s", told(e))
	}
	// A name that is free again may be taken again.
	fine(t, e.Prepare([]byte("p"), ops(put("c", "z"))), e.Commit([]byte("p")))
	e = open(t, d)
	if all(e, api.MaxSeq) != "a=x b=y c=z" || e.Last() != 4 || held(e) != "" {
		t.Errorf("opened: %s", told(e))
	}
}

func TestNoNumbersLeft(t *testing.T) {
	e, d := store(t, api.MaxSeq-3)
	fine(t, e.Prepare([]byte("four"), many(4, "a")), e.Prepare([]byte("two"), many(2, "a")), e.Prepare([]byte("none"), nil))
	is(t, "Write of four", e.Write(many(4, "a")), api.ErrSeq)
	is(t, "Write of four, of a wrong height", e.Write(many(4, "a"), 0), api.ErrArg)
	is(t, "Commit of four", e.Commit([]byte("four")), api.ErrSeq)
	fine(t, e.Commit([]byte("two")))
	is(t, "Write of two", e.Write(many(2, "a")), api.ErrSeq)
	fine(t, e.Write(ops(put("b", "x"))))
	is(t, "Write of one", e.Write(ops(put("b", "x"))), api.ErrSeq)
	is(t, "Commit of four", e.Commit([]byte("four")), api.ErrSeq)
	// No ops need no number.
	fine(t, e.Write(nil), e.Commit([]byte("none")))
	for range 2 {
		if e.Last() != api.MaxSeq || all(e, api.MaxSeq) != "a=1 b=x" || held(e) != "four("+opText(many(4, "a"))+")" {
			t.Errorf("%s", told(e))
		}
		e = open(t, d)
	}
	fine(t, e.Flush(), e.Compact(0), e.Compact(1), e.Prepare([]byte("none"), nil), e.Commit([]byte("none")))
	if at := e.Pin(); at != api.MaxSeq || e.Unpin(at) != api.OK {
		t.Errorf("Pin = %d", at)
	}
}

// Without ops and without any number given a commit still lasts.
func TestCommitOfNothingAtZero(t *testing.T) {
	e, d := store(t, 0)
	fine(t, e.Prepare([]byte("p"), nil), e.Commit([]byte("p")))
	for range 2 {
		if e.Last() != 0 || held(e) != "" || !e.Fresh() {
			t.Errorf("%s", told(e))
		}
		e = open(t, d)
	}
}

func TestStalls(t *testing.T) {
	e, _ := store(t, 0)
	fine(t, e.Prepare([]byte("p"), ops(put("p", "x"))), e.Prepare([]byte("none"), nil))
	for i := range api.Tables {
		fine(t, e.Write(ops(put(fmt.Sprint(i), "x"))), e.Flush())
	}
	before := told(e)
	is(t, "Write", e.Write(ops(put("a", "x"))), api.ErrStall)
	is(t, "Write of a wrong height", e.Write(ops(put("a", "x")), 9), api.ErrArg)
	is(t, "Write of nothing", e.Write(nil), api.OK)
	is(t, "Prepare", e.Prepare([]byte("q"), nil), api.ErrStall)
	is(t, "Prepare of a name that is held", e.Prepare([]byte("p"), nil), api.ErrExists)
	is(t, "Commit", e.Commit([]byte("p")), api.ErrStall)
	is(t, "Commit of no ops", e.Commit([]byte("none")), api.ErrStall)
	is(t, "Commit of nothing", e.Commit([]byte("q")), api.ErrNone)
	is(t, "Flush", e.Flush(), api.ErrState)
	if told(e) != before {
		t.Errorf("%s, before %s", told(e), before)
	}
	fine(t, e.Undo([]byte("none")), e.Compact(0), e.Commit([]byte("p")), e.Write(ops(put("a", "x"))))
	if all(e, api.MaxSeq) != "0=x 1=x 2=x 3=x a=x p=x" {
		t.Errorf("%s", told(e))
	}
}

// A stall goes ahead of a lack of numbers.
func TestStallsWithoutNumbers(t *testing.T) {
	e, _ := store(t, api.MaxSeq-api.Tables)
	fine(t, e.Prepare([]byte("p"), ops(put("p", "x"))))
	for i := range api.Tables {
		fine(t, e.Write(ops(put(fmt.Sprint(i), "x"))), e.Flush())
	}
	is(t, "Write", e.Write(ops(put("a", "x"))), api.ErrStall)
	is(t, "Commit", e.Commit([]byte("p")), api.ErrStall)
	fine(t, e.Compact(0))
	is(t, "Write", e.Write(ops(put("a", "x"))), api.ErrSeq)
	is(t, "Commit", e.Commit([]byte("p")), api.ErrSeq)
}

func TestMemoryOfTheMemoIsFull(t *testing.T) {
	e, d := store(t, 0)
	for range 7 {
		fine(t, e.Write(many(64, "a")))
	}
	fine(t, e.Prepare([]byte("p"), many(53, "b")), e.Prepare([]byte("q"), many(52, "c")))
	for range 2 {
		is(t, "Write of 53 more than 448", e.Write(many(53, "a")), api.ErrStall)
		is(t, "Commit of 53 more than 448", e.Commit([]byte("p")), api.ErrStall)
		e = open(t, d)
	}
	fine(t, e.Commit([]byte("q")))
	for range 2 {
		is(t, "Write of one more than 500", e.Write(ops(span("a", "b"))), api.ErrStall)
		e = open(t, d)
	}
	fine(t, e.Write(nil), e.Prepare([]byte("none"), nil), e.Commit([]byte("none")), e.Flush(), e.Write(many(53, "a")), e.Commit([]byte("p")))
	if all(e, api.MaxSeq) != "a=52 b=52 c=51" || e.Last() != 606 {
		t.Errorf("%s", told(e))
	}
}

func TestPins(t *testing.T) {
	e, d := store(t, 0)
	is(t, "Unpin", e.Unpin(0), api.ErrNone)
	if e.Pin() != 0 || e.Pin() != 0 {
		t.Error("Pin isn't 0")
	}
	fine(t, e.Write(ops(put("a", "1"))))
	is(t, "Unpin of another", e.Unpin(1), api.ErrNone)
	if e.Pin() != 1 {
		t.Error("Pin isn't 1")
	}
	fine(t, e.Write(ops(put("a", "2"))), e.Unpin(0), e.Flush(), e.Compact(0), e.Compact(1))
	for seq, want := range map[uint64]string{0: "", 1: "a=1", 2: "a=2", api.MaxSeq: "a=2", math.MaxUint64: "a=2"} {
		if got := all(e, seq); got != want {
			t.Errorf("as of %d: %s, want %s", seq, got, want)
		}
		if v, ok := e.Get([]byte("a"), seq); ok != (want != "") || ok && "a="+string(v) != want {
			t.Errorf("as of %d: %s, want %s", seq, v, want)
		}
	}
	fine(t, e.Unpin(0), e.Unpin(1))
	is(t, "Unpin of 0", e.Unpin(0), api.ErrNone)
	is(t, "Unpin of 1", e.Unpin(1), api.ErrNone)
	is(t, "Unpin of the greatest", e.Unpin(math.MaxUint64), api.ErrNone)
	e.Pin()
	e = open(t, d)
	is(t, "Unpin of what another engine has pinned", e.Unpin(2), api.ErrNone)
}

func TestScans(t *testing.T) {
	e, _ := store(t, 0)
	fine(t, e.Write(ops(put("a", "1"), put("c", "3"))), e.Flush(), e.Compact(0), e.Compact(1))
	fine(t, e.Write(ops(put("b", "2"), put("e", "5"))), e.Flush(), e.Compact(0))
	fine(t, e.Write(ops(put("d", "4"), del("e"))), e.Flush(), e.Write(ops(put("f", "6"), span("c", "d"))))
	cases := []struct {
		from, to string
		most     int
		back     bool
		want     string
	}{
		{"", "", 9, false, "a=1 b=2 d=4 f=6"},
		{"", "", 9, true, "f=6 d=4 b=2 a=1"},
		{"", "", 2, false, "a=1 b=2"},
		{"", "", 2, true, "f=6 d=4"},
		{"", "", 0, false, ""},
		{"", "", -1, true, ""},
		{"", "", math.MinInt, false, ""},
		{"", "", math.MaxInt, false, "a=1 b=2 d=4 f=6"},
		{"b", "f", 9, false, "b=2 d=4"},
		{"b", "f", 1, true, "d=4"},
		{"b\x00", "f\x00", 9, false, "d=4 f=6"},
		{"d", "d", 9, false, ""},
		{"e", "b", 9, false, ""},
		{"g", "", 9, true, ""},
		{"", "a", 9, false, ""},
		{"", strings.Repeat("z", 100), 9, false, "a=1 b=2 d=4 f=6"},
	}
	for _, c := range cases {
		if got := text(e.Scan([]byte(c.from), []byte(c.to), c.most, c.back, api.MaxSeq)); got != c.want {
			t.Errorf("Scan(%q, %q, %d, %t) = %s, want %s", c.from, c.to, c.most, c.back, got, c.want)
		}
	}
	for key, want := range map[string]string{"a": "1", "b": "2", "c": "", "d": "4", "e": "", "f": "6", "g": "", "": "", strings.Repeat("c", 99): ""} {
		if v, ok := e.Get([]byte(key), api.MaxSeq); string(v) != want || ok != (want != "") {
			t.Errorf("Get(%q) = %q, %t", key, v, ok)
		}
	}
}

// An empty value is a value, wherever it lies.
func TestEmptyValues(t *testing.T) {
	e, _ := store(t, 0)
	fine(t, e.Write(ops(put("a", ""))))
	for _, next := range []func() api.Errno{e.Flush, func() api.Errno { return e.Compact(0) }, func() api.Errno { return e.Compact(1) }} {
		if v, ok := e.Get([]byte("a"), api.MaxSeq); !ok || len(v) > 0 || all(e, api.MaxSeq) != "a=" {
			t.Errorf("Get = %q, %t; all: %s", v, ok, all(e, api.MaxSeq))
		}
		fine(t, next())
	}
}

func TestNilEngine(t *testing.T) {
	var e *engine.Engine
	for what, call := range errnoCalls() {
		is(t, what, call(e), api.ErrNone)
	}
	if v, ok := e.Get([]byte("a"), 0); v != nil || ok {
		t.Errorf("Get = %q, %t", v, ok)
	}
	if e.Held() != nil || e.Scan(nil, nil, 9, false, 9) != nil || e.Last() != 0 || e.Pin() != 0 || e.Tables(0) != 0 || e.Fresh() || e.Up() {
		t.Error("a nil engine tells something")
	}
}

// errnoCalls are all calls that answer an error, right and wrong ones.
func errnoCalls() map[string]func(*engine.Engine) api.Errno {
	return map[string]func(*engine.Engine) api.Errno{
		"Write":                  func(e *engine.Engine) api.Errno { return e.Write(ops(put("q", "x"))) },
		"Write of nothing":       func(e *engine.Engine) api.Errno { return e.Write(nil) },
		"Write of a wrong op":    func(e *engine.Engine) api.Errno { return e.Write(ops(api.Op{}), 0) },
		"Prepare":                func(e *engine.Engine) api.Errno { return e.Prepare([]byte("z"), nil) },
		"Prepare without a name": func(e *engine.Engine) api.Errno { return e.Prepare(nil, nil) },
		"Commit":                 func(e *engine.Engine) api.Errno { return e.Commit([]byte("p")) },
		"Commit of nothing":      func(e *engine.Engine) api.Errno { return e.Commit(nil) },
		"Undo":                   func(e *engine.Engine) api.Errno { return e.Undo([]byte("p")) },
		"Undo of nothing":        func(e *engine.Engine) api.Errno { return e.Undo(nil) },
		"Unpin":                  func(e *engine.Engine) api.Errno { return e.Unpin(3) },
		"Unpin of nothing":       func(e *engine.Engine) api.Errno { return e.Unpin(999) },
		"Flush":                  (*engine.Engine).Flush,
		"Compact":                func(e *engine.Engine) api.Errno { return e.Compact(0) },
		"Compact of no level":    func(e *engine.Engine) api.Errno { return e.Compact(-1) },
	}
}

// refusesAll fails unless every call that answers an error says that the power went.
func refusesAll(t *testing.T, e *engine.Engine) {
	t.Helper()
	for what, call := range errnoCalls() {
		is(t, what, call(e), api.ErrDown)
	}
	if e.Up() || e.Pin() != 0 {
		t.Error("it is up")
	}
}

// busy answers a store that has something of all, and its disk.
func busy(t *testing.T) (*engine.Engine, *disk.Disk) {
	t.Helper()
	e, d := store(t, 0)
	fine(t, e.Write(ops(put("a", "x"), put("b", "y"))), e.Flush(), e.Write(ops(del("b"))), e.Prepare([]byte("p"), ops(put("c", "z"))))
	e.Pin()
	return e, d
}

// Whichever call the power goes in: the engine isn't up any more, not even with
// the power back, and tells what it did.
func TestDown(t *testing.T) {
	for _, name := range []string{"Write", "Prepare", "Commit", "Undo", "Flush", "Compact"} {
		n := 1
		for ; ; n++ {
			e, d := busy(t)
			before := told(e)
			fine(t, d.Arm(n))
			err := errnoCalls()[name](e)
			if err == api.OK {
				break
			}
			is(t, name, err, api.ErrDown)
			if n%2 == 0 {
				refusesAll(t, e)
			}
			fine(t, d.Crash(nil, 0))
			refusesAll(t, e)
			if told(e) != before {
				t.Errorf("%s: %s, before %s", name, told(e), before)
			}
			if v, ok := e.Get([]byte("a"), api.MaxSeq); !ok || string(v) != "x" {
				t.Errorf("%s: Get = %q, %t", name, v, ok)
			}
		}
		if n < 3 {
			t.Errorf("%s makes only %d changes", name, n)
		}
	}
}

// The power may also go while the engine does nothing: whichever call comes first finds it out.
func TestDownMeanwhile(t *testing.T) {
	calls := errnoCalls()
	calls["Up"] = func(e *engine.Engine) api.Errno {
		if e.Up() {
			return api.OK
		}
		return api.ErrDown
	}
	calls["Pin"] = func(e *engine.Engine) api.Errno {
		if e.Pin() != 0 {
			return api.OK
		}
		return api.ErrDown
	}
	for what, call := range calls {
		e, d := busy(t)
		before := told(e)
		fine(t, d.Arm(1))
		is(t, "Create", d.Create("x"), api.ErrDown)
		is(t, what, call(e), api.ErrDown)
		if told(e) != before {
			t.Errorf("%s: %s, before %s", what, told(e), before)
		}
		fine(t, d.Crash(nil, 0))
		refusesAll(t, e)
		if told(open(t, d)) != before {
			t.Error("opened it isn't the same")
		}
	}
}

// Neither does an engine outlast a crash of which it was told nothing: while it
// did nothing, the power went and came back.
func TestCrashBetweenCalls(t *testing.T) {
	crashes := map[string]func(*disk.Disk){
		"with the power on": func(d *disk.Disk) { fine(t, d.Crash(nil, 0)) },
		"with all kept":     func(d *disk.Disk) { fine(t, d.Crash([]int{1 << 20, 1 << 20}, 1)) },
		"twice":             func(d *disk.Disk) { fine(t, d.Crash(nil, 0), d.Crash(nil, 0)) },
		"while armed":       func(d *disk.Disk) { fine(t, d.Arm(1), d.Crash(nil, 0)) },
		"with the power off": func(d *disk.Disk) {
			fine(t, d.Arm(1))
			is(t, "Create", d.Create("x"), api.ErrDown)
			fine(t, d.Crash(nil, 0))
		},
	}
	for what, crash := range crashes {
		e, d := busy(t)
		before := told(e)
		crash(d)
		files := image(t, d)
		refusesAll(t, e)
		if told(e) != before {
			t.Errorf("%s: %s, before %s", what, told(e), before)
		}
		if image(t, d) != files || !d.On() {
			t.Errorf("%s: an engine that isn't up has changed the disk", what)
		}
		// Opened anew it is up, and the one that was opened ahead of the crash stays down.
		again := open(t, d)
		if told(again) != before || !again.Up() {
			t.Errorf("%s: opened anew: %s, before %s", what, told(again), before)
		}
		refusesAll(t, e)
		fine(t, again.Write(ops(put("q", "x"))), again.Flush())
		if !again.Up() {
			t.Errorf("%s: opened anew it isn't up", what)
		}
	}
}

func TestOpenRefuses(t *testing.T) {
	e, err := engine.Open(nil)
	if e != nil || err != api.ErrNone {
		t.Errorf("Open of no disk = %t, %d", e != nil, err)
	}
	refuses := func(what string, d *disk.Disk, want api.Errno) {
		t.Helper()
		if e, err := engine.Open(d); e != nil || err != want {
			t.Errorf("%s: Open = %t, %d, want %d", what, e != nil, err, want)
		}
	}
	d := room(t, 1000)
	refuses("an empty disk", d, api.ErrForm)
	fine(t, d.Arm(1))
	is(t, "Create", d.Create("x"), api.ErrDown)
	refuses("an empty disk without power", d, api.ErrDown)
	fine(t, d.Crash(nil, 0), engine.Format(d, 0), d.Arm(1))
	is(t, "Create", d.Create("x"), api.ErrDown)
	refuses("a store without power", d, api.ErrDown)
	fine(t, d.Crash(nil, 0))
	open(t, d)
}
