package locks_test

import (
	"math"
	"testing"

	"bartizan/api"
	"bartizan/locks"
)

func TestRelease(t *testing.T) {
	x := roomy(t)
	asks(t, x, key(1, "a", exclusive), api.Fine)
	asks(t, x, key(1, "b", exclusive), api.Fine)
	asks(t, x, key(2, "c", exclusive), api.Fine)
	asks(t, x, key(1, "c", shared), api.Waiting)
	asks(t, x, key(4, "b", shared), api.Waiting)
	asks(t, x, key(3, "a", shared), api.Waiting)
	asks(t, x, key(5, "c", shared), api.Waiting)
	ids(t, "Release of nobody", x.Release(9))
	ids(t, "Release(0)", x.Release(0))
	ids(t, "Queue", x.Queue(), 1, 4, 3, 5)
	ids(t, "Release(1)", x.Release(1), 4, 3) // in the queue's order
	granted(t, x, 1)
	if _, ok := x.Waits(1); ok {
		t.Error("1 waits")
	}
	ids(t, "Queue", x.Queue(), 5)
	ids(t, "Release(1)", x.Release(1))
	if x.Len() != 3 {
		t.Errorf("Len = %d", x.Len())
	}
}

// Who only waits is released, too.
func TestReleaseOfWhoWaits(t *testing.T) {
	x := roomy(t)
	asks(t, x, key(1, "a", shared), api.Fine)
	asks(t, x, key(2, "a", exclusive), api.Waiting)
	asks(t, x, key(3, "a", update), api.Waiting)
	asks(t, x, key(4, "a", shared), api.Waiting)
	asks(t, x, key(5, "a", update), api.Waiting)
	ids(t, "Release(2)", x.Release(2), 3, 4)
	ids(t, "Queue", x.Queue(), 5)
	ids(t, "Blockers(5)", x.Blockers(5), 3)
}

func TestLeave(t *testing.T) {
	x := roomy(t)
	asks(t, x, key(1, "a", shared), api.Fine)
	asks(t, x, key(2, "b", exclusive), api.Fine)
	asks(t, x, key(2, "a", exclusive), api.Waiting)
	asks(t, x, key(3, "a", shared), api.Waiting)
	asks(t, x, key(4, "b", shared), api.Waiting)
	ids(t, "Leave(1)", x.Leave(1)) // it doesn't wait: nothing goes
	granted(t, x, 1, key(1, "a", shared))
	ids(t, "Leave(9)", x.Leave(9))
	ids(t, "Leave(2)", x.Leave(2), 3)
	granted(t, x, 2, key(2, "b", exclusive))
	ids(t, "Queue", x.Queue(), 4)
	asks(t, x, key(2, "a", shared), api.Fine)
}

func TestTick(t *testing.T) {
	x := roomy(t)
	asks(t, x, key(1, "a", exclusive), api.Fine)
	for i, until := range []uint64{0, 7, 5, 6, 5, math.MaxUint64, 4} {
		if x.Ask(key(uint64(2+i), "a", shared), until) != api.Waiting {
			t.Error("Ask")
		}
	}
	steps := []struct {
		now  uint64
		late []uint64
	}{
		{0, []uint64{2}},
		{3, nil},
		{5, []uint64{4, 6, 8}},
		{5, nil},
		{1, nil},
		{6, []uint64{5}},
		{math.MaxUint64 - 1, []uint64{3}},
		{math.MaxUint64, []uint64{7}},
	}
	for _, s := range steps {
		late, passed := x.Tick(s.now)
		ids(t, "late", late, s.late...)
		ids(t, "granted", passed)
	}
	ids(t, "Queue", x.Queue())
	granted(t, x, 1, key(1, "a", exclusive))
}

// Who was late is out of the others' way.
func TestTickGrants(t *testing.T) {
	x := roomy(t)
	asks(t, x, key(1, "a", shared), api.Fine)
	if x.Ask(key(2, "a", exclusive), 5) != api.Waiting || x.Ask(key(3, "a", shared), 6) != api.Waiting || x.Ask(key(4, "a", update), 5) != api.Waiting || x.Ask(key(5, "a", update), 6) != api.Waiting {
		t.Fatal("Ask")
	}
	late, passed := x.Tick(4)
	ids(t, "late", late)
	ids(t, "granted", passed)
	late, passed = x.Tick(5)
	ids(t, "late", late, 2, 4)
	ids(t, "granted", passed, 3, 5)
	late, passed = x.Tick(9)
	ids(t, "late", late)
	ids(t, "granted", passed)
	if x.Len() != 3 {
		t.Errorf("Len = %d", x.Len())
	}
}

// Who is late could have been granted by what goes at that tick: it is late all the same.
func TestTickTakesFirst(t *testing.T) {
	x := roomy(t)
	asks(t, x, key(1, "a", shared), api.Fine)
	if x.Ask(key(2, "a", exclusive), 5) != api.Waiting || x.Ask(key(3, "a", shared), 5) != api.Waiting {
		t.Fatal("Ask")
	}
	late, passed := x.Tick(5)
	ids(t, "late", late, 2, 3)
	ids(t, "granted", passed)
}

// Each is granted there and then, so that it is in the way of those behind it.
func TestGrantedThereAndThen(t *testing.T) {
	x := roomy(t)
	asks(t, x, lock(1, "a", "z", exclusive), api.Fine)
	asks(t, x, lock(2, "b", "d", exclusive), api.Waiting)
	asks(t, x, lock(3, "c", "f", shared), api.Waiting)
	asks(t, x, lock(4, "e", "g", exclusive), api.Waiting)
	asks(t, x, lock(5, "g", "h", exclusive), api.Waiting)
	asks(t, x, lock(6, "b", "h", exclusive), api.Waiting)
	ids(t, "Release(1)", x.Release(1), 2, 5)
	ids(t, "Queue", x.Queue(), 3, 4, 6)
	ids(t, "Blockers(3)", x.Blockers(3), 2)
	ids(t, "Blockers(4)", x.Blockers(4), 3)
	ids(t, "Blockers(6)", x.Blockers(6), 2, 3, 4, 5)
	ids(t, "Release(2)", x.Release(2), 3)
	ids(t, "Release(3)", x.Release(3), 4)
	ids(t, "Release(5)", x.Release(5))
	ids(t, "Release(4)", x.Release(4), 6)
}

func TestGrantedAsTheyWere(t *testing.T) {
	x := roomy(t)
	asks(t, x, key(1, "c", shared), api.Fine)
	asks(t, x, key(2, "b", exclusive), api.Fine)
	forces(t, x, key(1, "z", update))
	asks(t, x, key(1, "b", shared), api.Waiting)
	granted(t, x, 1, key(1, "c", shared), key(1, "z", update))
	ids(t, "Release(2)", x.Release(2), 1)
	asks(t, x, key(1, "a", shared), api.Fine)
	granted(t, x, 1, key(1, "c", shared), key(1, "z", update), key(1, "b", shared), key(1, "a", shared))
	granted(t, x, 2)
	granted(t, x, 0)
}

func TestWaits(t *testing.T) {
	x := roomy(t)
	asks(t, x, lock(1, "", "", exclusive), api.Fine)
	want := lock(2, "b", "", update)
	asks(t, x, want, api.Waiting)
	if l, ok := x.Waits(2); !ok || !same(l, want) {
		t.Errorf("Waits = %s, %t", tell(l), ok)
	}
	for _, txn := range []uint64{0, 1, 3} {
		if l, ok := x.Waits(txn); ok || !same(l, api.Lock{}) || len(x.Blockers(txn)) > 0 {
			t.Errorf("Waits(%d) = %s, %t", txn, tell(l), ok)
		}
	}
	ids(t, "Blockers(2)", x.Blockers(2), 1)
	x.Release(1)
	if l, ok := x.Waits(2); ok || !same(l, api.Lock{}) || len(x.Blockers(2)) > 0 {
		t.Errorf("Waits = %s, %t", tell(l), ok)
	}
}

// Each is told once, rising, whether it has a lock, or several, or waits ahead, or both.
func TestBlockers(t *testing.T) {
	x := roomy(t)
	asks(t, x, key(9, "a", shared), api.Fine)
	asks(t, x, key(9, "b", shared), api.Fine)
	asks(t, x, key(2, "a", shared), api.Fine)
	asks(t, x, key(7, "b", update), api.Fine)
	asks(t, x, key(7, "a", exclusive), api.Waiting)
	asks(t, x, key(5, "b", shared), api.Fine)
	asks(t, x, key(4, "c", shared), api.Fine)
	asks(t, x, lock(3, "a", "c", exclusive), api.Waiting)
	asks(t, x, lock(8, "a", "z", exclusive), api.Waiting)
	ids(t, "Blockers(7)", x.Blockers(7), 2, 9)
	ids(t, "Blockers(3)", x.Blockers(3), 2, 5, 7, 9) // not 8, behind it
	ids(t, "Blockers(8)", x.Blockers(8), 2, 3, 4, 5, 7, 9)
	ids(t, "Leave(3)", x.Leave(3))
	ids(t, "Blockers(8)", x.Blockers(8), 2, 4, 5, 7, 9)
}

func TestVictimOfTwo(t *testing.T) {
	x := roomy(t)
	asks(t, x, key(1, "a", exclusive), api.Fine)
	asks(t, x, key(2, "b", exclusive), api.Fine)
	asks(t, x, key(1, "b", shared), api.Waiting)
	victim(t, x, 1, 0)
	victim(t, x, 2, 0)
	asks(t, x, key(3, "a", shared), api.Waiting)
	asks(t, x, key(2, "a", shared), api.Waiting)
	victim(t, x, 1, 2)
	victim(t, x, 2, 2)
	victim(t, x, 3, 0) // it waits for who goes round, but doesn't itself
	victim(t, x, 0, 0)
	victim(t, x, 9, 0)
	ids(t, "Release(2)", x.Release(2), 1)
	victim(t, x, 1, 0)
}

func TestVictimOfThree(t *testing.T) {
	x := roomy(t)
	for txn, k := range map[uint64]string{5: "a", 3: "b", 8: "c"} {
		asks(t, x, key(txn, k, exclusive), api.Fine)
	}
	asks(t, x, key(5, "b", shared), api.Waiting)
	asks(t, x, key(3, "c", shared), api.Waiting)
	asks(t, x, key(8, "a", shared), api.Waiting)
	for _, txn := range []uint64{3, 5, 8} {
		victim(t, x, txn, 8)
	}
}

// The shortest ring counts, though a longer one has a greater transaction.
func TestVictimOfTheShortestRing(t *testing.T) {
	x := roomy(t)
	asks(t, x, lock(1, "a", "c", exclusive), api.Fine)
	asks(t, x, key(2, "m", shared), api.Fine)
	asks(t, x, key(9, "m", shared), api.Fine)
	asks(t, x, key(3, "x", exclusive), api.Fine)
	asks(t, x, key(3, "a", exclusive), api.Waiting)
	asks(t, x, key(9, "x", exclusive), api.Waiting)
	asks(t, x, key(2, "b", exclusive), api.Waiting)
	asks(t, x, key(1, "m", exclusive), api.Waiting)
	victim(t, x, 1, 2)
	victim(t, x, 9, 9)
	victim(t, x, 3, 9)
}

// Who waits in the queue ahead is waited for: that makes a ring, too.
func TestVictimByTheQueue(t *testing.T) {
	x := roomy(t)
	asks(t, x, key(1, "a", shared), api.Fine)
	asks(t, x, lock(2, "a", "c", exclusive), api.Waiting)
	asks(t, x, key(1, "b", shared), api.Waiting)
	ids(t, "Blockers(1)", x.Blockers(1), 2)
	victim(t, x, 1, 2)
	// Two that have it shared, and both want it alone.
	x = roomy(t)
	asks(t, x, key(4, "a", shared), api.Fine)
	asks(t, x, key(6, "a", shared), api.Fine)
	asks(t, x, key(6, "a", exclusive), api.Waiting)
	asks(t, x, key(4, "a", exclusive), api.Waiting)
	victim(t, x, 4, 6)
	ids(t, "Release(6)", x.Release(6), 4)
}

func TestNilTable(t *testing.T) {
	var x *locks.Table
	asks(t, x, key(1, "a", shared), api.BadState)
	asks(t, x, api.Lock{}, api.BadState)
	if err := x.Force(key(1, "a", shared)); err != api.ErrNone {
		t.Errorf("Force = %d", err)
	}
	if err := x.Force(api.Lock{}); err != api.ErrNone {
		t.Errorf("Force of what isn't right = %d", err)
	}
	ids(t, "Release", x.Release(1))
	ids(t, "Leave", x.Leave(1))
	late, passed := x.Tick(1)
	ids(t, "late", late)
	ids(t, "granted", passed)
	granted(t, x, 1)
	if l, ok := x.Waits(1); ok || !same(l, api.Lock{}) {
		t.Errorf("Waits = %s, %t", tell(l), ok)
	}
	ids(t, "Blockers", x.Blockers(1))
	victim(t, x, 1, 0)
	ids(t, "Queue", x.Queue())
	if x.Len() != 0 {
		t.Errorf("Len = %d", x.Len())
	}
}

func TestTablesAreApart(t *testing.T) {
	x, y := roomy(t), roomy(t)
	asks(t, x, key(1, "a", exclusive), api.Fine)
	asks(t, y, key(2, "a", exclusive), api.Fine)
	asks(t, x, key(3, "a", exclusive), api.Waiting)
	asks(t, y, key(3, "b", exclusive), api.Fine)
	ids(t, "Release", y.Release(1))
	ids(t, "Queue", x.Queue(), 3)
}
