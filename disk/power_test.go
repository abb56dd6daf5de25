package disk_test

import (
	"math"
	"testing"

	"bartizan/api"
	"bartizan/disk"
)

// changes are one of each kind, on a disk with a file a.
func changes() map[string]func(d *disk.Disk) api.Errno {
	return map[string]func(d *disk.Disk) api.Errno{
		"Create":        func(d *disk.Disk) api.Errno { return d.Create("new") },
		"Append":        func(d *disk.Disk) api.Errno { return d.Append("a", []byte("45")) },
		"Append none":   func(d *disk.Disk) api.Errno { return d.Append("a", nil) },
		"Sync":          func(d *disk.Disk) api.Errno { return d.Sync("a") },
		"Rename":        func(d *disk.Disk) api.Errno { return d.Rename("a", "z") },
		"Rename itself": func(d *disk.Disk) api.Errno { return d.Rename("a", "a") },
		"Delete":        func(d *disk.Disk) api.Errno { return d.Delete("a") },
	}
}

// others are calls that are no changes, with the answer that they have.
func others(t *testing.T, d *disk.Disk) {
	t.Helper()
	answers(t, "Create", d.Create("a"), api.ErrExists)
	answers(t, "Create", d.Create("A"), api.ErrArg)
	answers(t, "Append", d.Append("none", nil), api.ErrNone)
	answers(t, "Append", d.Append("a", make([]byte, 1000)), api.ErrFull)
	answers(t, "Sync", d.Sync("none"), api.ErrNone)
	answers(t, "Rename", d.Rename("none", "a"), api.ErrNone)
	answers(t, "Rename", d.Rename("a", "A"), api.ErrArg)
	answers(t, "Delete", d.Delete("none"), api.ErrNone)
	answers(t, "Arm", d.Arm(-1), api.ErrArg)
	d.Read("a")
	d.Read("none")
	d.List()
	d.Used()
	d.On()
	d.Changes()
}

func TestChangesAreCounted(t *testing.T) {
	for name, change := range changes() {
		d := filled(t, 100, "a", "123")
		power(t, d, true, 3)
		others(t, d)
		power(t, d, true, 3)
		fine(t, change(d))
		if !d.On() || d.Changes() != 4 {
			t.Errorf("%s: On: %v, Changes: %d", name, d.On(), d.Changes())
		}
	}
}

// The power goes at the armed change, whatever it is, which counts; none counts behind it.
func TestPowerGoesAtEachChange(t *testing.T) {
	for name, change := range changes() {
		d := filled(t, 100, "a", "123")
		fine(t, d.Arm(1))
		others(t, d)
		power(t, d, true, 3)
		if err := change(d); err != api.ErrDown || d.On() || d.Changes() != 4 {
			t.Errorf("%s: %v, On: %v, Changes: %d", name, err, d.On(), d.Changes())
		}
		others(t, d)
		for again, change := range changes() {
			answers(t, again, change(d), api.ErrDown)
		}
		power(t, d, false, 4)
		used := 3
		if name == "Append" {
			used = 5
		}
		has(t, d, used, "a")
		fine(t, d.Crash([]int{9}, 1))
		power(t, d, true, 4)
	}
}

// The change at which the power goes isn't done.
func TestArmedChangeIsNotDone(t *testing.T) {
	for name, change := range changes() {
		if name == "Append" {
			continue // of that the bytes are there
		}
		d := filled(t, 100, "a", "123")
		fine(t, d.Append("a", []byte("67")), d.Arm(1))
		answers(t, name, change(d), api.ErrDown)
		has(t, d, 5, "a")
		fine(t, d.Crash([]int{1}, 1))
		has(t, d, 4, "a")
		holds(t, d, "a", "1237") // 6 is torn
	}
}

func TestArmedAppendLeavesItsBytesInTheTail(t *testing.T) {
	for kept, want := range []string{"123", "1235", "12344", "123456", "123456"} {
		d := filled(t, 100, "a", "123")
		fine(t, d.Arm(1))
		answers(t, "Append", d.Append("a", []byte("456")), api.ErrDown)
		has(t, d, 6, "a")
		fine(t, d.Crash([]int{kept}, 1))
		holds(t, d, "a", want)
		power(t, d, true, 4)
	}
}

func TestArmCountsFromNowOn(t *testing.T) {
	for n := 1; n <= 6; n++ {
		d := filled(t, 100, "a", "123")
		fine(t, d.Arm(n))
		for range n - 1 {
			fine(t, d.Append("a", []byte("x")))
			others(t, d)
		}
		power(t, d, true, 3+n-1)
		answers(t, "the n-th", d.Append("a", []byte("x")), api.ErrDown)
		power(t, d, false, 3+n)
		has(t, d, 3+n, "a")
	}
}

func TestArmAgain(t *testing.T) {
	d := filled(t, 100, "a", "")
	fine(t, d.Arm(2), d.Sync("a"), d.Arm(2), d.Sync("a"))
	answers(t, "the second from the second Arm on", d.Sync("a"), api.ErrDown)

	d = filled(t, 100, "a", "")
	fine(t, d.Arm(1), d.Arm(0))
	for range 10 {
		fine(t, d.Sync("a"))
	}
	power(t, d, true, 13)
}

// A refused Arm leaves what was armed.
func TestArmRefuses(t *testing.T) {
	d := filled(t, 100, "a", "")
	for _, n := range []int{-1, -2, math.MinInt} {
		answers(t, "Arm", d.Arm(n), api.ErrArg)
	}
	fine(t, d.Sync("a"), d.Arm(2))
	answers(t, "Arm", d.Arm(-1), api.ErrArg)
	fine(t, d.Sync("a"))
	answers(t, "Sync", d.Sync("a"), api.ErrDown)
	answers(t, "Arm, down", d.Arm(-1), api.ErrArg)
}

func TestArmFar(t *testing.T) {
	d := filled(t, 100, "a", "")
	fine(t, d.Arm(math.MaxInt))
	for range 100 {
		fine(t, d.Sync("a"))
	}
	power(t, d, true, 103)
}

// Arming doesn't bring the power back, and a crash takes back what was armed ahead of it, with the power on or off.
func TestCrashDisarms(t *testing.T) {
	d := filled(t, 100, "a", "")
	fine(t, d.Arm(1), d.Crash(nil, 0), d.Sync("a"), d.Sync("a"))
	power(t, d, true, 5)

	down(t, d, "a")
	fine(t, d.Arm(1))
	answers(t, "still down", d.Sync("a"), api.ErrDown)
	fine(t, d.Arm(0))
	answers(t, "still down", d.Sync("a"), api.ErrDown)
	fine(t, d.Arm(1))
	power(t, d, false, 6)
	fine(t, d.Crash(nil, 0), d.Sync("a"), d.Sync("a"))
	power(t, d, true, 8)
}

func TestArmBehindACrash(t *testing.T) {
	d := filled(t, 100, "a", "")
	down(t, d, "a")
	fine(t, d.Crash(nil, 0), d.Arm(2), d.Create("b"))
	answers(t, "Create", d.Create("c"), api.ErrDown)
	has(t, d, 0, "a", "b")
	power(t, d, false, 6)
}

// A crash is no change, whether the power is on or off.
func TestCrashIsNoChange(t *testing.T) {
	d := filled(t, 100, "a", "123")
	fine(t, d.Crash(nil, 0), d.Crash(nil, 0))
	power(t, d, true, 3)
	down(t, d, "a")
	power(t, d, false, 4)
	fine(t, d.Crash(nil, 0))
	power(t, d, true, 4)
	holds(t, d, "a", "123")
}

// Each crash is counted, whether the power is on or off; nothing else is.
func TestCrashesAreCounted(t *testing.T) {
	d := filled(t, 100, "a", "123")
	counts := func(want int) {
		t.Helper()
		if n := d.Crashes(); n != want {
			t.Errorf("Crashes: %d, want %d", n, want)
		}
	}
	counts(0)
	others(t, d)
	counts(0)
	fine(t, d.Crash(nil, 0))
	counts(1)
	power(t, d, true, 3)
	fine(t, d.Arm(2), d.Crash([]int{9}, 1))
	counts(2)
	down(t, d, "a")
	others(t, d)
	counts(2)
	fine(t, d.Crash(nil, 0))
	counts(3)
	if n := room(t, 100).Crashes(); n != 0 {
		t.Errorf("another disk has %d", n)
	}
}
