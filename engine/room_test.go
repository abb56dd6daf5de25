package engine_test

import (
	"math/rand"
	"slices"
	"strings"
	"testing"

	"bartizan/api"
	"bartizan/disk"
	"bartizan/engine"
)

// refusedFull fails unless nothing has changed where there was no room.
func (u *run) refusedFull(s step) {
	u.t.Helper()
	before, files := told(u.e), image(u.t, u.d)
	err := s.do(&u.e, u.d)
	switch err {
	case api.OK:
		u.count[s.kind]++
		s.mark(u.m)
	case api.ErrDown, api.ErrForm:
		u.t.Fatalf("%v answered %d", s, err)
	default:
		if told(u.e) != before || image(u.t, u.d) != files {
			u.t.Fatalf("%v answered %d, and has changed\n%s\n%s to\n%s\n%s", s, err, before, files, told(u.e), image(u.t, u.d))
		}
	}
	if lasting(u.e) != u.m.told() {
		u.t.Fatalf("%v: %s, want %s", s, lasting(u.e), u.m.told())
	}
	if err == api.ErrFull {
		u.memo++ // here: how often there was no room
	}
}

// Wherever there is no room nothing changes, and the store goes on.
func TestSmallRooms(t *testing.T) {
	full := map[int]int{}
	for size := 60; size < 3000; size += 1 + size/12 {
		d := room(t, size)
		if engine.Format(d, 0) != api.OK {
			t.Fatalf("no room for a store in %d bytes", size)
		}
		e, err := engine.Open(d)
		fine(t, err)
		r := rand.New(rand.NewSource(int64(size)))
		u := &run{t: t, r: r, d: d, e: e, m: newModel(0)}
		for range 300 {
			s := someStep(r, 20, 4)
			was := u.memo
			u.refusedFull(s)
			full[s.kind] += u.memo - was
			tidy(t, d, u.e)
		}
	}
	for kind := range toReopen + 1 {
		if full[kind] == 0 {
			t.Errorf("of the kind %d there was always room", kind)
		}
	}
}

// With the power going where there is hardly room it is still all or nothing.
func TestPowerGoesInSmallRooms(t *testing.T) {
	found, full := 0, 0
	for seed := range int64(60) {
		r := rand.New(rand.NewSource(seed))
		d := room(t, 300+r.Intn(1500))
		fine(t, engine.Format(d, 0))
		e := open(t, d)
		m := newModel(0)
		for range 200 {
			s := someStep(r, 20, 2)
			fine(t, d.Arm(r.Intn(40)))
			err := s.do(&e, d)
			after := m.copy()
			s.mark(after)
			if err == api.OK {
				m = after
			}
			if err != api.ErrDown {
				continue
			}
			fine(t, d.Crash([]int{r.Intn(100), r.Intn(100)}, byte(r.Intn(256))))
			before := image(t, d)
			next, err := engine.Open(d)
			if err == api.ErrFull {
				full++
				onlyLess(t, before, image(t, d))
				break
			}
			fine(t, err)
			e = next
			if lasting(e) == after.told() {
				m = after
			}
			if lasting(e) != m.told() {
				t.Fatalf("run %d, %v: %s, want %s", seed, s, lasting(e), m.told())
			}
			found++
		}
	}
	if found < 300 || full == 0 {
		t.Errorf("found %d times, and %d times there was no room", found, full)
	}
}

// onlyLess fails unless files that lie about may have gone, and nothing else has changed.
func onlyLess(t *testing.T, before, after string) {
	t.Helper()
	had := strings.Split(before, "\n")
	for _, line := range strings.Split(after, "\n") {
		if !slices.Contains(had, line) {
			t.Fatalf("%s wasn't there: %s", line, before)
		}
	}
}

func TestFormatWithoutRoom(t *testing.T) {
	least := 0
	for size := 1; size < 100; size++ {
		d := room(t, size)
		switch err := engine.Format(d, 1<<40); err {
		case api.OK:
			if least == 0 {
				least = size
			}
		case api.ErrFull:
			if least > 0 {
				t.Errorf("Format in %d bytes, but not in %d", least, size)
			}
			if e, err := engine.Open(d); e != nil || err != api.ErrForm {
				t.Errorf("Open of what Format left in %d bytes = %t, %d", size, e != nil, err)
			}
		default:
			t.Errorf("Format in %d bytes = %d", size, err)
		}
	}
	if least < 20 {
		t.Errorf("Format in %d bytes", least)
	}
}

func TestOpenWithoutRoom(t *testing.T) {
	refused := 0
	for size := 1; size < 200; size++ {
		d := room(t, size)
		if engine.Format(d, 9) != api.OK {
			continue
		}
		before := image(t, d)
		e, err := engine.Open(d)
		switch err {
		case api.OK:
			if refused == 0 {
				t.Error("there was always room")
			}
			fine(t, e.Write(nil))
			is(t, "Write", e.Write(ops(put("a", strings.Repeat("x", 200)))), api.ErrFull)
			if lasting(e) != newModel(9).told() {
				t.Errorf("%s", told(e))
			}
		case api.ErrFull:
			refused++
			if e != nil || image(t, d) != before {
				t.Errorf("in %d bytes: %t, %s, before %s", size, e != nil, image(t, d), before)
			}
		default:
			t.Errorf("Open in %d bytes = %d", size, err)
		}
	}
}

// crowded answers a store, and its disk, on which so many bytes are left.
func crowded(t *testing.T, left int) (*engine.Engine, *disk.Disk) {
	t.Helper()
	d := room(t, 4000)
	fine(t, engine.Format(d, 0))
	e := open(t, d)
	fine(t, e.Write(numbered(0, 20)), e.Flush(), e.Write(ops(put("a", "x"))), e.Prepare([]byte("p"), ops(put("b", "y"))))
	fine(t, d.Create("ballast"), d.Append("ballast", make([]byte, 4000-d.Used()-left)))
	return e, d
}

// Each call tells that there is no room, at whichever of its steps that is, and
// changes nothing then; with as much room as it needs it goes on.
func TestNoRoom(t *testing.T) {
	calls := map[string]func(*engine.Engine) api.Errno{
		"Write":   func(e *engine.Engine) api.Errno { return e.Write(ops(put("q", "x"))) },
		"Prepare": func(e *engine.Engine) api.Errno { return e.Prepare([]byte("q"), nil) },
		"Commit":  func(e *engine.Engine) api.Errno { return e.Commit([]byte("p")) },
		"Undo":    func(e *engine.Engine) api.Errno { return e.Undo([]byte("p")) },
		"Flush":   (*engine.Engine).Flush,
		"Compact": func(e *engine.Engine) api.Errno { return e.Compact(0) },
	}
	for name, call := range calls {
		left := 0
		for ; left < 2000; left++ {
			e, d := crowded(t, left)
			before, files := told(e), image(t, d)
			err := call(e)
			if err == api.OK {
				break
			}
			is(t, name, err, api.ErrFull)
			if told(e) != before || image(t, d) != files || !e.Up() {
				t.Fatalf("%s has changed something with %d bytes left", name, left)
			}
		}
		if left < 7 || left == 2000 {
			t.Errorf("%s needs %d bytes", name, left)
		}
	}
}
