package disk_test

import (
	"math"
	"testing"

	"bartizan/api"
	"bartizan/disk"
)

func TestExampleOfTheChapter(t *testing.T) {
	example := func() *disk.Disk {
		d := room(t, 100)
		fine(t, d.Create("a"), d.Append("a", []byte{1, 2, 3}), d.Sync("a"), d.Append("a", []byte{4, 5, 6}))
		return d
	}
	d := example()
	fine(t, d.Crash([]int{2}, 1))
	holds(t, d, "a", "\x01\x02\x03\x04\x04")
	d = example()
	fine(t, d.Crash(nil, 0))
	holds(t, d, "a", "\x01\x02\x03")
}

func TestCrashKeeps(t *testing.T) {
	cases := []struct {
		keep []int
		torn byte
		want string
	}{
		{nil, 1, "ab"},
		{[]int{}, 1, "ab"},
		{[]int{0}, 1, "ab"},
		{[]int{-1}, 1, "ab"},
		{[]int{math.MinInt}, 1, "ab"},
		{[]int{1}, 0, "abc"},
		{[]int{1}, 1, "abb"},
		{[]int{2}, 0xff, "abc\x9b"},
		{[]int{3}, 0x80, "abcd\xe5"},
		{[]int{4}, 0x80, "abcdef"},
		{[]int{5}, 0x80, "abcdef"},
		{[]int{math.MaxInt}, 0x80, "abcdef"},
		{[]int{3, 7, 9}, 0, "abcde"},
	}
	for _, c := range cases {
		d := filled(t, 100, "x", "ab")
		fine(t, d.Append("x", []byte("cd")), d.Append("x", []byte("ef")), d.Crash(c.keep, c.torn))
		holds(t, d, "x", c.want)
		has(t, d, len(c.want), "x")
	}
}

// A file that was never synced is tail from its first byte on; the file itself stays.
func TestCrashOfWhatWasNeverSynced(t *testing.T) {
	d := room(t, 100)
	fine(t, d.Create("a"), d.Append("a", []byte("123")), d.Crash(nil, 1))
	has(t, d, 0, "a")
	holds(t, d, "a", "")
	fine(t, d.Append("a", []byte("123")), d.Crash([]int{1}, 3))
	holds(t, d, "a", "2")
}

// Only files that have a tail are counted, and by their names.
func TestCrashCountsFilesWithATail(t *testing.T) {
	d := filled(t, 100, "e", "5", "d", "4", "c", "3", "b", "2", "a", "1")
	fine(t, d.Create("aa"), d.Create("f"))
	fine(t, d.Append("d", []byte("xyz")), d.Append("f", []byte("xyz")), d.Append("b", []byte("xyz")), d.Append("a", nil))
	fine(t, d.Crash([]int{1, 2, 3}, 1))
	has(t, d, 11, "a", "aa", "b", "c", "d", "e", "f")
	holds(t, d, "a", "1")
	holds(t, d, "aa", "")
	holds(t, d, "b", "2y") // x is torn
	holds(t, d, "c", "3")
	holds(t, d, "d", "4xx") // y is torn
	holds(t, d, "e", "5")
	holds(t, d, "f", "xyz")
}

func TestCrashWithTooShortAList(t *testing.T) {
	d := filled(t, 100, "a", "1", "b", "2", "c", "3")
	for _, name := range []string{"a", "b", "c"} {
		fine(t, d.Append(name, []byte("xy")))
	}
	fine(t, d.Crash([]int{-1, 9}, 1))
	holds(t, d, "a", "1")
	holds(t, d, "b", "2xy")
	holds(t, d, "c", "3")
}

// The name that a file has when the power goes is the one by which it is counted.
func TestCrashCountsByTheLatestName(t *testing.T) {
	d := filled(t, 100, "a", "1", "b", "2")
	fine(t, d.Append("a", []byte("xy")), d.Append("b", []byte("zw")), d.Rename("a", "c"), d.Crash([]int{2, 0}, 0))
	holds(t, d, "b", "2zw")
	holds(t, d, "c", "1")
}

// What a crash has left is synced: the next one takes nothing of it, nor does a tear go on.
func TestCrashSyncs(t *testing.T) {
	d := filled(t, 100, "a", "1", "b", "2")
	fine(t, d.Append("a", []byte("xyz")), d.Append("b", []byte("uvw")), d.Crash([]int{1, 9}, 1))
	fine(t, d.Crash(nil, 1), d.Crash([]int{1, 1}, 1))
	holds(t, d, "a", "1y")
	holds(t, d, "b", "2uvw")
	fine(t, d.Append("b", []byte("34")), d.Crash([]int{1}, 0))
	holds(t, d, "a", "1y")
	holds(t, d, "b", "2uvw3")
}

// What was lost gives its room back, and what is written then stands where it stood.
func TestCrashGivesRoomBack(t *testing.T) {
	d := filled(t, 10, "a", "123")
	fine(t, d.Append("a", []byte("4567890")))
	answers(t, "full", d.Append("a", []byte("x")), api.ErrFull)
	fine(t, d.Crash([]int{2}, 0))
	has(t, d, 5, "a")
	answers(t, "full", d.Append("a", []byte("uvwxyz")), api.ErrFull)
	fine(t, d.Append("a", []byte("vwxyz")))
	holds(t, d, "a", "12345vwxyz")
}

// An armed append to a full disk is refused, and the power stays.
func TestArmedAppendWithoutRoom(t *testing.T) {
	d := filled(t, 5, "a", "123")
	fine(t, d.Arm(1))
	answers(t, "full", d.Append("a", []byte("456")), api.ErrFull)
	power(t, d, true, 3)
	answers(t, "fits", d.Append("a", []byte("45")), api.ErrDown)
	has(t, d, 5, "a")
}
