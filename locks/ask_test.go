package locks_test

import (
	"fmt"
	"math"
	"strings"
	"testing"

	"bartizan/api"
	"bartizan/locks"
)

func TestExampleOfTheChapter(t *testing.T) {
	x := roomy(t)
	asks(t, x, key(1, "a", shared), api.Fine)
	asks(t, x, key(2, "a", exclusive), api.Waiting)
	asks(t, x, key(3, "a", shared), api.Waiting)
	asks(t, x, key(1, "a", exclusive), api.Fine)
	ids(t, "Release", x.Release(1), 2)
	granted(t, x, 2, key(2, "a", exclusive))
	ids(t, "Queue", x.Queue(), 3)
}

func TestNew(t *testing.T) {
	good := []int{1, 2, 100, api.MaxLocks - 1, api.MaxLocks}
	bad := []int{0, -1, math.MinInt, api.MaxLocks + 1, math.MaxInt}
	for _, most := range good {
		for _, each := range good {
			x := limited(t, most, each)
			if x.Len() != 0 || len(x.Queue()) > 0 {
				t.Errorf("New(%d, %d) has locks", most, each)
			}
		}
	}
	refused := func(most, each int) {
		if x, err := locks.New(most, each); x != nil || err != api.ErrArg {
			t.Errorf("New(%d, %d) = %v, %d", most, each, x, err)
		}
	}
	for _, n := range bad {
		for _, m := range append(good, bad...) {
			refused(n, m)
			refused(m, n)
		}
	}
}

// right holds right locks at the edges of the chapter's words.
func right() []api.Lock {
	long := strings.Repeat("k", api.MaxKey+1)
	return []api.Lock{
		lock(1, "a", "b", shared),
		lock(1, "a", "b", update),
		lock(1, "a", "b", exclusive),
		lock(math.MaxUint64, "a", "a\x00", shared),
		lock(1, "", "", shared),
		lock(1, "", "\x00", shared),
		lock(1, "\xff", "", shared),
		lock(1, long, "", shared),
		lock(1, "", long, shared),
		lock(1, long[1:], long, shared),
		lock(1, long[:api.MaxKey]+"a", long[:api.MaxKey]+"b", shared),
		lock(1, "\x7f", "\x80", shared),
	}
}

// wrong holds locks that aren't right.
func wrong() []api.Lock {
	long := strings.Repeat("k", api.MaxKey+2)
	return []api.Lock{
		{},
		lock(0, "a", "b", shared),
		lock(1, "a", "b", 0),
		lock(1, "a", "b", 4),
		lock(1, "a", "b", 255),
		lock(1, "b", "a", shared),
		lock(1, "a", "a", shared),
		lock(1, "ab", "a", shared),
		lock(1, "\x80", "\x7f", shared),
		lock(1, long, "", shared),
		lock(1, "", long, shared),
		lock(1, "a", long, shared),
		lock(1, long, "z", shared),
	}
}

func TestRightAndWrong(t *testing.T) {
	for _, l := range right() {
		x := roomy(t)
		asks(t, x, l, api.Fine)
		forces(t, x, l)
		granted(t, x, l.Txn, l, l)
	}
	x := roomy(t)
	asks(t, x, key(1, "m", shared), api.Fine)
	asks(t, x, key(2, "m", exclusive), api.Waiting)
	before := told(x)
	for _, l := range wrong() {
		asks(t, x, l, api.BadState)
		if err := x.Force(l); err != api.ErrForm {
			t.Errorf("Force(%s) = %d", tell(l), err)
		}
		// Who has a request that waits is told the same.
		l.Txn *= 2
		asks(t, x, l, api.BadState)
	}
	unchanged(t, x, before)
}

func TestModes(t *testing.T) {
	together := map[[2]byte]bool{{shared, shared}: true, {shared, update}: true, {update, shared}: true}
	for a := byte(shared); a <= exclusive; a++ {
		for b := byte(shared); b <= exclusive; b++ {
			want := api.Waiting
			if together[[2]byte{a, b}] {
				want = api.Fine
			}
			x := roomy(t)
			asks(t, x, key(1, "k", a), api.Fine)
			asks(t, x, key(2, "k", b), want)
			// Of one transaction any two go together.
			x = roomy(t)
			asks(t, x, lock(1, "a", "c", a), api.Fine)
			asks(t, x, lock(1, "b", "d", b), api.Fine)
		}
	}
}

func TestOverlap(t *testing.T) {
	cases := []struct {
		from, to, from2, to2 string
		want                 bool
	}{
		{"a", "c", "b", "d", true},
		{"a", "d", "b", "c", true},
		{"a", "b", "a", "b", true},
		{"a", "b", "b", "c", false},
		{"a", "b\x00", "b", "c", true},
		{"a", "b", "c", "d", false},
		{"a", "", "z", "zz", true},
		{"z", "", "a", "z", false},
		{"z", "", "a", "z\x00", true},
		{"z", "", "y", "", true},
		{"", "", "q", "r", true},
		{"", "", "", "", true},
		{"", "a", "", "\x00", true},
		{"", "a", "a", "", false},
		{"", "a", "\x00", "", true},
		{"k", "k\x00", "k\x00", "l", false},
		{"k", "k\x00", "j", "k", false},
		{"k", "k\x00", "j", "k\x00", true},
		{"\x7f", "\x80", "\x80", "\xff", false},
		{"\x01", "\x80", "\x7f", "\xff", true},
	}
	for _, c := range cases {
		want := api.Fine
		if c.want {
			want = api.Waiting
		}
		x := roomy(t)
		asks(t, x, lock(1, c.from, c.to, exclusive), api.Fine)
		asks(t, x, lock(2, c.from2, c.to2, exclusive), want)
		x = roomy(t)
		asks(t, x, lock(1, c.from2, c.to2, exclusive), api.Fine)
		asks(t, x, lock(2, c.from, c.to, exclusive), want)
	}
}

// What is covered already is Fine, and nothing happens: seen where one more would be too many.
func TestCovered(t *testing.T) {
	cases := []struct {
		has  api.Lock
		asks api.Lock
		want bool
	}{
		{lock(1, "b", "d", update), lock(1, "b", "d", update), true},
		{lock(1, "b", "d", update), lock(1, "b", "d", shared), true},
		{lock(1, "b", "d", update), lock(1, "b", "d", exclusive), false},
		{lock(1, "b", "d", exclusive), lock(1, "b\x00", "c", update), true},
		{lock(1, "b", "d", shared), lock(1, "c", "d", shared), true},
		{lock(1, "b", "d", shared), lock(1, "b", "c", shared), true},
		{lock(1, "b", "d", exclusive), lock(1, "a", "d", shared), false},
		{lock(1, "b", "d", exclusive), lock(1, "b", "d\x00", shared), false},
		{lock(1, "b", "d", exclusive), lock(1, "b", "", shared), false},
		{lock(1, "b", "d", exclusive), lock(1, "", "d", shared), false},
		{lock(1, "b", "d", exclusive), lock(1, "d", "e", shared), false},
		{lock(1, "b", "", exclusive), lock(1, "b", "", exclusive), true},
		{lock(1, "b", "", exclusive), lock(1, "c", "d", exclusive), true},
		{lock(1, "b", "", exclusive), lock(1, "a", "", exclusive), false},
		{lock(1, "", "", exclusive), lock(1, "", "", shared), true},
		{lock(1, "", "", exclusive), lock(1, "", "a", shared), true},
		{lock(1, "", "a", exclusive), lock(1, "", "", shared), false},
		{lock(2, "b", "d", shared), lock(1, "b", "d", shared), false},
	}
	for _, c := range cases {
		x := limited(t, 1, 1)
		asks(t, x, c.has, api.Fine)
		before := told(x)
		want := api.LockLimit
		if c.want {
			want = api.Fine
		}
		asks(t, x, c.asks, want)
		unchanged(t, x, before)
	}
}

// One lock has to cover it all: two that do so together don't.
func TestCoveredByTwo(t *testing.T) {
	x := roomy(t)
	asks(t, x, lock(1, "a", "b", shared), api.Fine)
	asks(t, x, lock(1, "b", "c", shared), api.Fine)
	asks(t, x, lock(1, "a", "c", shared), api.Fine)
	granted(t, x, 1, lock(1, "a", "b", shared), lock(1, "b", "c", shared), lock(1, "a", "c", shared))
	asks(t, x, lock(1, "a", "c", shared), api.Fine)
	if x.Len() != 3 {
		t.Errorf("Len = %d", x.Len())
	}
}

// What is covered is Fine even if another one waits for it, or has it by force.
func TestCoveredAheadOfOthers(t *testing.T) {
	x := roomy(t)
	asks(t, x, lock(1, "a", "c", shared), api.Fine)
	forces(t, x, lock(3, "a", "c", exclusive))
	asks(t, x, lock(2, "a", "c", exclusive), api.Waiting)
	before := told(x)
	asks(t, x, key(1, "b", shared), api.Fine)
	unchanged(t, x, before)
}

func TestBusy(t *testing.T) {
	x := limited(t, 3, 2)
	asks(t, x, key(1, "a", exclusive), api.Fine)
	asks(t, x, key(2, "b", exclusive), api.Fine)
	asks(t, x, key(2, "a", shared), api.Waiting)
	before := told(x)
	// Even of what it has, and even with the table full.
	for _, l := range []api.Lock{key(2, "b", shared), key(2, "a", shared), key(2, "c", shared), lock(2, "", "", exclusive)} {
		asks(t, x, l, api.Busy)
	}
	asks(t, x, lock(2, "b", "a", shared), api.BadState)
	unchanged(t, x, before)
	ids(t, "Release", x.Release(1), 2)
	asks(t, x, key(2, "b", shared), api.Fine)
}

func TestLimitOfEach(t *testing.T) {
	x := limited(t, 10, 2)
	asks(t, x, key(1, "a", shared), api.Fine)
	asks(t, x, key(1, "b", shared), api.Fine)
	before := told(x)
	asks(t, x, key(1, "c", shared), api.LockLimit)
	asks(t, x, key(1, "a", exclusive), api.LockLimit)
	unchanged(t, x, before)
	asks(t, x, key(2, "c", exclusive), api.Fine)
	asks(t, x, key(2, "a", shared), api.Fine)
	// It is told so even where it would have to wait.
	asks(t, x, key(1, "c", shared), api.LockLimit)
	ids(t, "Release", x.Release(1))
	asks(t, x, key(1, "a", shared), api.Fine)
}

// What was forced counts, too, though it isn't limited.
func TestLimitOfEachWithForce(t *testing.T) {
	x := limited(t, 10, 2)
	for _, k := range []string{"a", "b", "c"} {
		forces(t, x, key(1, k, exclusive))
	}
	asks(t, x, key(1, "d", shared), api.LockLimit)
	asks(t, x, key(1, "c", shared), api.Fine)
	asks(t, x, key(2, "d", shared), api.Fine)
	if x.Len() != 4 {
		t.Errorf("Len = %d", x.Len())
	}
}

func TestLimitOfAll(t *testing.T) {
	x := limited(t, 3, 3)
	asks(t, x, key(1, "a", exclusive), api.Fine)
	asks(t, x, key(2, "b", exclusive), api.Fine)
	asks(t, x, key(3, "a", exclusive), api.Waiting)
	before := told(x)
	asks(t, x, key(1, "c", shared), api.LockLimit)
	asks(t, x, key(4, "c", shared), api.LockLimit)
	asks(t, x, key(4, "a", shared), api.LockLimit)
	unchanged(t, x, before)
	ids(t, "Leave", x.Leave(3))
	asks(t, x, key(4, "c", shared), api.Fine)
	asks(t, x, key(4, "d", shared), api.LockLimit)
	forces(t, x, key(4, "d", shared))
	forces(t, x, key(4, "e", shared))
	asks(t, x, key(1, "f", shared), api.LockLimit)
	ids(t, "Release", x.Release(2))
	asks(t, x, key(1, "f", shared), api.LockLimit)
	ids(t, "Release", x.Release(4))
	asks(t, x, key(1, "f", shared), api.Fine)
}

func TestGreatestLimits(t *testing.T) {
	x := roomy(t)
	for i := range api.MaxLocks {
		asks(t, x, key(1, fmt.Sprint(i), exclusive), api.Fine)
	}
	asks(t, x, key(1, "more", exclusive), api.LockLimit)
	asks(t, x, key(2, "more", exclusive), api.LockLimit)
	if x.Len() != api.MaxLocks || len(x.Granted(1)) != api.MaxLocks {
		t.Errorf("Len = %d", x.Len())
	}
}

// Who asks doesn't pass who waits, but where they overlap and don't go together alone.
func TestNoPassing(t *testing.T) {
	x := roomy(t)
	asks(t, x, lock(1, "a", "c", shared), api.Fine)
	asks(t, x, lock(2, "b", "d", exclusive), api.Waiting)
	asks(t, x, lock(3, "c", "e", shared), api.Waiting) // by the request of 2 alone
	ids(t, "Blockers(3)", x.Blockers(3), 2)
	asks(t, x, lock(4, "d", "f", shared), api.Fine)
	asks(t, x, lock(5, "a", "b", shared), api.Fine)
	asks(t, x, lock(6, "c", "d", update), api.Waiting)
	ids(t, "Blockers(6)", x.Blockers(6), 2)
	asks(t, x, lock(7, "d", "e", update), api.Fine) // it goes together with the request of 3
	ids(t, "Queue", x.Queue(), 2, 3, 6)
}

// A request that waits may go together with those behind it.
func TestSharedBesideSharedThatWaits(t *testing.T) {
	x := roomy(t)
	asks(t, x, lock(1, "a", "b", exclusive), api.Fine)
	asks(t, x, lock(2, "a", "c", shared), api.Waiting)
	asks(t, x, lock(3, "b", "c", update), api.Fine)
	asks(t, x, lock(4, "b", "c", update), api.Waiting)
	ids(t, "Blockers(4)", x.Blockers(4), 3)
	asks(t, x, lock(5, "b", "c", shared), api.Fine)
}

func TestUpgrade(t *testing.T) {
	x := roomy(t)
	asks(t, x, key(1, "a", shared), api.Fine)
	asks(t, x, key(2, "a", shared), api.Fine)
	asks(t, x, key(3, "a", exclusive), api.Waiting)
	asks(t, x, key(1, "a", update), api.Fine) // it passes 3
	asks(t, x, key(1, "a", exclusive), api.Waiting)
	ids(t, "Blockers(1)", x.Blockers(1), 2) // not 3
	ids(t, "Blockers(3)", x.Blockers(3), 1, 2)
	ids(t, "Queue", x.Queue(), 3, 1)
	ids(t, "Release(2)", x.Release(2), 1)
	granted(t, x, 1, key(1, "a", shared), key(1, "a", update), key(1, "a", exclusive))
	ids(t, "Queue", x.Queue(), 3)
}

// A lock that reaches into one that it has is an upgrade; one that only touches it is none.
func TestUpgradeByOverlap(t *testing.T) {
	x := roomy(t)
	asks(t, x, lock(1, "a", "c", shared), api.Fine)
	asks(t, x, lock(2, "a", "z", exclusive), api.Waiting)
	asks(t, x, lock(1, "c", "e", shared), api.Waiting)
	ids(t, "Blockers(1)", x.Blockers(1), 2)
	victim(t, x, 1, 2)
	ids(t, "Leave(1)", x.Leave(1))
	asks(t, x, lock(1, "b\x00", "e", shared), api.Fine)
	asks(t, x, lock(3, "d", "f", shared), api.Waiting)
	asks(t, x, lock(1, "d", "", shared), api.Fine)
}

func TestForce(t *testing.T) {
	x := limited(t, 1, 1)
	all := []api.Lock{key(1, "a", exclusive), key(2, "a", exclusive), key(1, "a", exclusive), lock(2, "", "", shared), key(1, "a", shared)}
	for _, l := range all {
		forces(t, x, l)
	}
	granted(t, x, 1, all[0], all[2], all[4])
	granted(t, x, 2, all[1], all[3])
	if x.Len() != 5 || len(x.Queue()) > 0 {
		t.Errorf("Len = %d, Queue = %v", x.Len(), x.Queue())
	}
}

// A forced lock is in the way as any other.
func TestForceIsInTheWay(t *testing.T) {
	x := roomy(t)
	asks(t, x, key(1, "a", shared), api.Fine)
	forces(t, x, key(2, "a", exclusive))
	asks(t, x, key(3, "a", shared), api.Waiting)
	asks(t, x, key(1, "a", update), api.Waiting)
	ids(t, "Blockers(1)", x.Blockers(1), 2)
	ids(t, "Blockers(3)", x.Blockers(3), 2)
	ids(t, "Release(2)", x.Release(2), 3, 1)
}

// What is forced while its transaction waits is granted; the request waits on till something goes.
func TestForceOfWhoWaits(t *testing.T) {
	x := roomy(t)
	asks(t, x, key(1, "a", shared), api.Fine)
	asks(t, x, lock(2, "a", "c", exclusive), api.Waiting)
	asks(t, x, key(3, "b", exclusive), api.Waiting)
	ids(t, "Blockers(3)", x.Blockers(3), 2)
	forces(t, x, key(3, "b", shared))
	ids(t, "Blockers(3)", x.Blockers(3)) // it is an upgrade now
	ids(t, "Blockers(2)", x.Blockers(2), 1, 3)
	ids(t, "Queue", x.Queue(), 2, 3)
	asks(t, x, key(3, "b", shared), api.Busy)
	ids(t, "Release of nobody", x.Release(9), 3)
	granted(t, x, 3, key(3, "b", shared), key(3, "b", exclusive))
	ids(t, "Queue", x.Queue(), 2)
}
