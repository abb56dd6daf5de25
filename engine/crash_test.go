package engine_test

import (
	"fmt"
	"math/rand"
	"testing"

	"bartizan/api"
	"bartizan/disk"
	"bartizan/engine"
)

// crash is what is left of the tails when the power goes.
type crash struct {
	keep []int
	torn byte
}

func crashes() []crash {
	return []crash{
		{nil, 0},
		{[]int{1 << 30, 1 << 30, 1 << 30}, 1},
		{[]int{1, 1, 1}, 0},
		{[]int{8, 8, 8}, 0x80},
		{[]int{20, 20, 20}, 1},
		{[]int{64, 64, 64}, 0},
		{[]int{70, 70, 70}, 0xff},
	}
}

// script is steps that come by all that an engine does on a disk.
func script() []step {
	long := put("l", string(make([]byte, 200)))
	return []step{
		{kind: toWrite, ops: ops(put("a", "1"), put("b", "2"))},
		{kind: toPrepare, name: "p", ops: ops(put("c", "3"), span("a", "b"))},
		{kind: toPrepare, name: "q", ops: ops(long)},
		{kind: toFlush},
		{kind: toCommit, name: "p"},
		{kind: toWrite, ops: ops(del("b"), long)},
		{kind: toFlush},
		{kind: toCompact},
		{kind: toUndo, name: "q"},
		{kind: toWrite, ops: numbered(0, 20)},
		{kind: toPrepare, name: "r"},
		{kind: toFlush},
		{kind: toReopen},
		{kind: toCompact},
		{kind: toCompact, level: 1},
		{kind: toCommit, name: "r"},
		{kind: toWrite, ops: ops(span("k003", "k007"), put("k005", "x"))},
		{kind: toFlush},
		{kind: toCompact},
		{kind: toCompact, level: 1},
		{kind: toWrite, ops: ops(put("z", ""))},
		{kind: toReopen},
	}
}

// trial runs the steps on a new store, whose power goes at the n-th change. It
// answers what the store may be then: what it was ahead of the step under way,
// or behind it; false: the steps were done, and the power is still on.
func trial(t *testing.T, steps []step, n int) (*disk.Disk, []*model, bool) {
	t.Helper()
	e, d := store(t, 7)
	m := newModel(7)
	fine(t, d.Arm(n))
	for _, s := range steps {
		err := s.do(&e, d)
		if err == api.ErrDown {
			if e.Up() && s.kind != toReopen || d.On() {
				t.Fatalf("%v: ErrDown, but Up = %t, On = %t", s, e.Up(), d.On())
			}
			after := m.copy()
			s.mark(after)
			return d, []*model{m, after}, true
		}
		if err == api.OK {
			s.mark(m)
		}
		if lasting(e) != m.told() {
			t.Fatalf("%v: %s, want %s", s, lasting(e), m.told())
		}
	}
	return d, []*model{m}, false
}

// reopened opens the disk, which holds one of the models, and answers what it tells.
func reopened(t *testing.T, d *disk.Disk, may []*model, what string) *engine.Engine {
	t.Helper()
	e := open(t, d)
	got := lasting(e)
	for _, m := range may {
		if got == m.told() {
			tidy(t, d, e)
			return e
		}
	}
	t.Fatalf("%s: found %s, want %s", what, got, may[0].told())
	return nil
}

// Wherever the power goes, what was acknowledged is found, and the call under
// way wholly or not at all.
func everyChange(t *testing.T, steps []step, least int) {
	t.Helper()
	n := 1
	for ; ; n++ {
		ended := false
		for _, c := range crashes() {
			d, may, down := trial(t, steps, n)
			if !down {
				ended = true
				break
			}
			fine(t, d.Crash(c.keep, c.torn))
			what := fmt.Sprintf("change %d, %v", n, c)
			e := reopened(t, d, may, what)
			got := told(e)
			again := open(t, d)
			if told(again) != got {
				t.Fatalf("%s: opened twice %s, once %s", what, told(again), got)
			}
		}
		if ended {
			break
		}
	}
	if n < least {
		t.Errorf("there were only %d changes", n)
	}
}

func TestPowerGoesAtEveryChange(t *testing.T) {
	everyChange(t, script(), 100)
}

func TestPowerGoesInRolledRuns(t *testing.T) {
	for seed := range int64(12) {
		r := rand.New(rand.NewSource(seed))
		var steps []step
		for range 25 {
			steps = append(steps, someStep(r, 12, 5))
		}
		everyChange(t, steps, 20)
	}
}

// A crash while a store is opened leaves what the crash ahead of it left; and so on.
func TestPowerGoesInOpen(t *testing.T) {
	steps := script()
	for n := 1; ; n += 3 {
		for k, c := range crashes() {
			for m := 1; ; m++ {
				d, may, down := trial(t, steps, n)
				if !down {
					return
				}
				fine(t, d.Crash(c.keep, c.torn), d.Arm(m))
				if e, err := engine.Open(d); err == api.OK {
					if m < 8 {
						t.Fatalf("Open makes only %d changes", m)
					}
					break
				} else if e != nil || err != api.ErrDown {
					t.Fatalf("Open = %t, %d", e != nil, err)
				}
				other := crashes()[(k+m)%len(crashes())]
				fine(t, d.Crash(other.keep, other.torn), d.Arm(m/2+1))
				if _, err := engine.Open(d); err != api.ErrDown {
					t.Fatalf("Open = %d", err)
				}
				fine(t, d.Crash(c.keep, c.torn))
				reopened(t, d, may, fmt.Sprintf("changes %d and %d, %v", n, m, c))
			}
		}
	}
}

// The store goes on behind a crash as if there had been none.
func TestRunsWithCrashes(t *testing.T) {
	for seed := range int64(30) {
		r := rand.New(rand.NewSource(seed))
		e, d := store(t, 0)
		m := newModel(0)
		for range 150 {
			if r.Intn(3) == 0 {
				fine(t, d.Arm(1+r.Intn(30)))
			}
			s := someStep(r, 20, 8)
			err := s.do(&e, d)
			may := []*model{m}
			if err == api.OK || err == api.ErrDown {
				after := m.copy()
				s.mark(after)
				may = append(may, after)
			}
			if err == api.OK {
				m, may = may[1], may[1:]
			}
			if err != api.ErrDown && r.Intn(10) > 0 {
				continue
			}
			fine(t, d.Crash([]int{r.Intn(100), r.Intn(100)}, byte(r.Intn(256))))
			e = reopened(t, d, may, fmt.Sprintf("run %d, %v", seed, s))
			for _, x := range may {
				if lasting(e) == x.told() {
					m = x
				}
			}
		}
	}
}

// Format is all or nothing, too: what it leaves is no store, or an empty one.
func TestPowerGoesInFormat(t *testing.T) {
	for n := 1; ; n++ {
		done := false
		for _, c := range crashes() {
			d := room(t, 1000)
			fine(t, d.Arm(n))
			if engine.Format(d, 5) == api.OK {
				done = true
				break
			}
			if d.On() {
				t.Fatal("the power is on")
			}
			fine(t, d.Crash(c.keep, c.torn))
			if e, err := engine.Open(d); err == api.OK {
				if lasting(e) != newModel(5).told() {
					t.Errorf("change %d: %s", n, told(e))
				}
			} else if e != nil || err != api.ErrForm {
				t.Errorf("change %d: Open = %t, %d", n, e != nil, err)
			}
		}
		if done {
			if n < 5 {
				t.Errorf("Format makes only %d changes", n)
			}
			return
		}
	}
}
