package disk_test

import (
	"bytes"
	"fmt"
	"math"
	"slices"
	"strings"
	"testing"

	"bartizan/api"
	"bartizan/disk"
)

// room makes a disk of so much room.
func room(t *testing.T, size int) *disk.Disk {
	t.Helper()
	d, err := disk.New(size)
	if d == nil || err != api.OK {
		t.Fatalf("New(%d): %v, %v", size, d, err)
	}
	return d
}

// fine fails unless each of the errors is none.
func fine(t *testing.T, errs ...api.Errno) {
	t.Helper()
	for i, err := range errs {
		if err != api.OK {
			t.Fatalf("call %d: %v", i, err)
		}
	}
}

// answers fails unless a call's error is the one that is wanted.
func answers(t *testing.T, what string, got, want api.Errno) {
	t.Helper()
	if got != want {
		t.Errorf("%s: %v, want %v", what, got, want)
	}
}

// holds fails unless the file has those bytes.
func holds(t *testing.T, d *disk.Disk, name, want string) {
	t.Helper()
	if p, err := d.Read(name); err != api.OK || string(p) != want {
		t.Errorf("Read(%s): %q, %v, want %q", name, p, err, want)
	}
}

// has fails unless the disk has the files of those names, and so many bytes.
func has(t *testing.T, d *disk.Disk, used int, names ...string) {
	t.Helper()
	if l := d.List(); !slices.Equal(l, names) {
		t.Errorf("List: %q, want %q", l, names)
	}
	if n := d.Used(); n != used {
		t.Errorf("Used: %d, want %d", n, used)
	}
}

// power fails unless the power is on, or off, behind so many changes.
func power(t *testing.T, d *disk.Disk, on bool, changes int) {
	t.Helper()
	if d.On() != on || d.Changes() != changes {
		t.Errorf("On: %v, Changes: %d, want %v, %d", d.On(), d.Changes(), on, changes)
	}
}

// down lets the power go at a change that does nothing else.
func down(t *testing.T, d *disk.Disk, name string) {
	t.Helper()
	fine(t, d.Arm(1))
	if err := d.Rename(name, name); err != api.ErrDown || d.On() {
		t.Fatalf("the power is on: %v", err)
	}
}

// filled makes a disk with the files that it is told, in pairs of a name and its bytes, all synced.
func filled(t *testing.T, size int, pairs ...string) *disk.Disk {
	t.Helper()
	d := room(t, size)
	for i := 0; i < len(pairs); i += 2 {
		fine(t, d.Create(pairs[i]), d.Append(pairs[i], []byte(pairs[i+1])), d.Sync(pairs[i]))
	}
	return d
}

// full makes a disk of so many files, named f0 and so on.
func full(t *testing.T, count int) *disk.Disk {
	t.Helper()
	d := room(t, 100)
	for i := range count {
		fine(t, d.Create(fmt.Sprint("f", i)))
	}
	return d
}

func TestNew(t *testing.T) {
	for _, size := range []int{1, 2, 100, api.MaxDisk - 1, api.MaxDisk} {
		d := room(t, size)
		has(t, d, 0)
		power(t, d, true, 0)
	}
	for _, size := range []int{0, -1, math.MinInt, api.MaxDisk + 1, math.MaxInt} {
		if d, err := disk.New(size); d != nil || err != api.ErrArg {
			t.Errorf("New(%d): %v, %v", size, d, err)
		}
	}
}

func TestDisksAreApart(t *testing.T) {
	a, b := room(t, 10), room(t, 10)
	fine(t, a.Create("x"), a.Append("x", []byte("123")))
	down(t, a, "x")
	has(t, b, 0)
	power(t, b, true, 0)
}

func TestName(t *testing.T) {
	long := strings.Repeat("z", api.MaxName)
	for _, s := range []string{"a", "z", "m", "0", "9", "5", "-", ".", "..", "--", "a.b-c0", "000001.log", long, long[1:]} {
		if !disk.Name(s) {
			t.Errorf("%q is a name", s)
		}
	}
	for _, s := range []string{"", long + "z", strings.Repeat("a", 1000), "a b", " a", "a ", "a/b", "A", "aZ", "a_b", "a\x00", "ä", "é", "a\n", "日", "a" + strings.Repeat("a", api.MaxName)} {
		if disk.Name(s) {
			t.Errorf("%q is no name", s)
		}
	}
}

func TestNameByBytes(t *testing.T) {
	const all = "abcdefghijklmnopqrstuvwxyz0123456789-."
	for c := range 256 {
		one := string([]byte{byte(c)})
		want := strings.IndexByte(all, byte(c)) >= 0
		for _, s := range []string{one, one + "a", "a" + one, "a" + one + "a"} {
			if disk.Name(s) != want {
				t.Errorf("Name(%q): %v, want %v", s, !want, want)
			}
		}
	}
}

func TestCreate(t *testing.T) {
	d := room(t, 10)
	long := strings.Repeat("m", api.MaxName)
	fine(t, d.Create("b"), d.Create("a"), d.Create(long))
	has(t, d, 0, "a", "b", long)
	holds(t, d, "a", "")
	power(t, d, true, 3)
}

func TestCreateRefuses(t *testing.T) {
	d := filled(t, 10, "a", "123")
	for _, name := range []string{"", "A", "a/b", strings.Repeat("m", api.MaxName+1)} {
		answers(t, "no name", d.Create(name), api.ErrArg)
	}
	answers(t, "there already", d.Create("a"), api.ErrExists)
	holds(t, d, "a", "123")
	has(t, d, 3, "a")
	power(t, d, true, 3)
}

func TestCreateWithoutRoom(t *testing.T) {
	d := filled(t, 3, "a", "123")
	fine(t, d.Create("b"))
	has(t, d, 3, "a", "b")
}

func TestCreateManyFiles(t *testing.T) {
	d := full(t, api.MaxFiles)
	answers(t, "one too many", d.Create("more"), api.ErrFull)
	if len(d.List()) != api.MaxFiles {
		t.Errorf("%d files", len(d.List()))
	}
	power(t, d, true, api.MaxFiles)
	fine(t, d.Delete("f7"), d.Create("more"))
	answers(t, "one too many again", d.Create("f7"), api.ErrFull)
	fine(t, d.Rename("f8", "f9"), d.Create("f7"))
}

// Each error stands ahead of the others that apply with it.
func TestCreateOrderOfErrors(t *testing.T) {
	d := full(t, api.MaxFiles)
	answers(t, "no name, full", d.Create("A"), api.ErrArg)
	answers(t, "there already, full", d.Create("f0"), api.ErrExists)
	down(t, d, "f0")
	answers(t, "no name, full, down", d.Create("A"), api.ErrArg)
	answers(t, "there already, full, down", d.Create("f0"), api.ErrExists)
	answers(t, "full, down", d.Create("more"), api.ErrFull)

	d = full(t, api.MaxFiles-1)
	down(t, d, "f0")
	answers(t, "down", d.Create("more"), api.ErrDown)
	if len(d.List()) != api.MaxFiles-1 {
		t.Errorf("%d files", len(d.List()))
	}
}

func TestAppend(t *testing.T) {
	d := room(t, 10)
	fine(t, d.Create("a"), d.Create("b"))
	fine(t, d.Append("a", []byte("12")), d.Append("b", []byte("xyz")), d.Append("a", []byte("3")))
	holds(t, d, "a", "123")
	holds(t, d, "b", "xyz")
	has(t, d, 6, "a", "b")
	fine(t, d.Append("a", nil), d.Append("b", []byte{}))
	has(t, d, 6, "a", "b")
	power(t, d, true, 7)
}

func TestAppendToTheLastByte(t *testing.T) {
	d := filled(t, 10, "a", "123")
	fine(t, d.Create("b"))
	answers(t, "one too many", d.Append("b", make([]byte, 8)), api.ErrFull)
	answers(t, "far too many", d.Append("a", make([]byte, 1<<16)), api.ErrFull)
	has(t, d, 3, "a", "b")
	power(t, d, true, 4)
	fine(t, d.Append("b", []byte("4567890")))
	has(t, d, 10, "a", "b")
	answers(t, "a byte more", d.Append("a", []byte("x")), api.ErrFull)
	fine(t, d.Append("a", nil))
	holds(t, d, "a", "123")
	holds(t, d, "b", "4567890")
	fine(t, d.Delete("a"), d.Append("b", []byte("abc")))
	has(t, d, 10, "b")
	answers(t, "full again", d.Append("b", []byte("x")), api.ErrFull)
}

func TestAppendWholeDisk(t *testing.T) {
	d := room(t, api.MaxDisk)
	fine(t, d.Create("a"), d.Append("a", make([]byte, api.MaxDisk)))
	answers(t, "a byte more", d.Append("a", []byte("x")), api.ErrFull)
	has(t, d, api.MaxDisk, "a")
}

func TestAppendRefuses(t *testing.T) {
	d := filled(t, 10, "a", "123")
	big := make([]byte, 8)
	for _, name := range []string{"b", "", "A", "aa"} {
		answers(t, "no file "+name, d.Append(name, []byte("x")), api.ErrNone)
		answers(t, "no file "+name+", no room", d.Append(name, big), api.ErrNone)
	}
	down(t, d, "a")
	answers(t, "no file, no room, down", d.Append("b", big), api.ErrNone)
	answers(t, "no room, down", d.Append("a", big), api.ErrFull)
	answers(t, "down", d.Append("a", []byte("x")), api.ErrDown)
	answers(t, "down, no bytes", d.Append("a", nil), api.ErrDown)
	has(t, d, 3, "a")
	fine(t, d.Crash([]int{9}, 1))
	holds(t, d, "a", "123")
}

func TestSync(t *testing.T) {
	d := room(t, 10)
	fine(t, d.Create("a"), d.Append("a", []byte("12")), d.Sync("a"), d.Append("a", []byte("34")), d.Sync("a"), d.Sync("a"))
	power(t, d, true, 6)
	fine(t, d.Append("a", []byte("5")), d.Crash(nil, 0))
	holds(t, d, "a", "1234")
}

// A sync is of one file alone.
func TestSyncIsOfOneFile(t *testing.T) {
	d := room(t, 10)
	fine(t, d.Create("a"), d.Create("b"), d.Append("a", []byte("12")), d.Append("b", []byte("34")), d.Sync("b"), d.Crash(nil, 0))
	holds(t, d, "a", "")
	holds(t, d, "b", "34")
}

func TestSyncRefuses(t *testing.T) {
	d := filled(t, 10, "a", "1")
	fine(t, d.Append("a", []byte("2")))
	answers(t, "no file", d.Sync("b"), api.ErrNone)
	answers(t, "no name", d.Sync("A"), api.ErrNone)
	down(t, d, "a")
	answers(t, "no file, down", d.Sync("b"), api.ErrNone)
	answers(t, "down", d.Sync("a"), api.ErrDown)
	fine(t, d.Crash(nil, 0))
	holds(t, d, "a", "1")
}

func TestRename(t *testing.T) {
	d := filled(t, 20, "a", "123", "c", "45678")
	fine(t, d.Rename("a", "b"))
	has(t, d, 8, "b", "c")
	holds(t, d, "b", "123")
	if _, err := d.Read("a"); err != api.ErrNone {
		t.Errorf("a is there: %v", err)
	}
	fine(t, d.Rename("b", "c"))
	has(t, d, 3, "c")
	holds(t, d, "c", "123")
	power(t, d, true, 8)
}

func TestRenameToItself(t *testing.T) {
	d := filled(t, 20, "a", "123")
	fine(t, d.Append("a", []byte("45")), d.Rename("a", "a"))
	has(t, d, 5, "a")
	power(t, d, true, 5)
	fine(t, d.Crash([]int{1}, 0))
	holds(t, d, "a", "1234")
}

// A file takes its own tail with it, and the other's goes with the other.
func TestRenameTakesTheTail(t *testing.T) {
	d := filled(t, 20, "a", "1", "b", "xyz")
	fine(t, d.Append("a", []byte("23")), d.Rename("a", "b"), d.Crash(nil, 0))
	holds(t, d, "b", "1")

	d = filled(t, 20, "a", "1", "b", "xyz")
	fine(t, d.Append("b", []byte("23")), d.Rename("a", "b"), d.Crash([]int{1}, 7))
	holds(t, d, "b", "1")
}

func TestRenameRefuses(t *testing.T) {
	d := filled(t, 20, "a", "1", "b", "2")
	for _, to := range []string{"", "A", strings.Repeat("m", api.MaxName+1)} {
		answers(t, "no name", d.Rename("a", to), api.ErrArg)
		answers(t, "no name, no file", d.Rename("c", to), api.ErrArg)
	}
	answers(t, "no file", d.Rename("c", "b"), api.ErrNone)
	answers(t, "no file, to itself", d.Rename("c", "c"), api.ErrNone)
	answers(t, "from no name", d.Rename("A", "b"), api.ErrNone)
	power(t, d, true, 6)
	down(t, d, "a")
	answers(t, "no name, no file, down", d.Rename("c", "A"), api.ErrArg)
	answers(t, "no file, down", d.Rename("c", "b"), api.ErrNone)
	answers(t, "down", d.Rename("a", "b"), api.ErrDown)
	answers(t, "down, to itself", d.Rename("a", "a"), api.ErrDown)
	fine(t, d.Crash(nil, 0))
	has(t, d, 2, "a", "b")
	holds(t, d, "a", "1")
	holds(t, d, "b", "2")
}

func TestDelete(t *testing.T) {
	d := filled(t, 20, "a", "123", "b", "45")
	fine(t, d.Delete("a"))
	has(t, d, 2, "b")
	power(t, d, true, 7)
	if p, err := d.Read("a"); p != nil || err != api.ErrNone {
		t.Errorf("Read: %q, %v", p, err)
	}
	fine(t, d.Create("a"))
	holds(t, d, "a", "")
	fine(t, d.Append("a", []byte("x")), d.Crash(nil, 0))
	holds(t, d, "a", "")
}

func TestDeleteRefuses(t *testing.T) {
	d := filled(t, 20, "a", "123")
	answers(t, "no file", d.Delete("b"), api.ErrNone)
	answers(t, "no name", d.Delete(""), api.ErrNone)
	power(t, d, true, 3)
	down(t, d, "a")
	answers(t, "no file, down", d.Delete("b"), api.ErrNone)
	answers(t, "down", d.Delete("a"), api.ErrDown)
	fine(t, d.Crash(nil, 0))
	holds(t, d, "a", "123")
}

func TestRead(t *testing.T) {
	d := filled(t, 20, "a", "123")
	fine(t, d.Append("a", []byte("45")))
	holds(t, d, "a", "12345")
	power(t, d, true, 4)
	for _, name := range []string{"b", "", "A"} {
		if p, err := d.Read(name); p != nil || err != api.ErrNone {
			t.Errorf("Read(%q): %q, %v", name, p, err)
		}
	}
	down(t, d, "a")
	if p, err := d.Read("b"); p != nil || err != api.ErrNone {
		t.Errorf("no file, down: %q, %v", p, err)
	}
	if p, err := d.Read("a"); p != nil || err != api.ErrDown {
		t.Errorf("down: %q, %v", p, err)
	}
}

func TestListRises(t *testing.T) {
	d := room(t, 10)
	for _, name := range []string{"b", "a", "ab", "10", "9", "-", ".", "aa", "z"} {
		fine(t, d.Create(name))
	}
	has(t, d, 0, "-", ".", "10", "9", "a", "aa", "ab", "b", "z")
}

func TestListAndUsedWithThePowerOff(t *testing.T) {
	d := filled(t, 20, "b", "123", "a", "45")
	down(t, d, "a")
	has(t, d, 5, "a", "b")
}

func TestNilDisk(t *testing.T) {
	var d *disk.Disk
	p, err := d.Read("a")
	if p != nil || err != api.ErrNone {
		t.Errorf("Read: %q, %v", p, err)
	}
	// ErrNone holds whatever else applies: so wrong arguments are refused no otherwise.
	for _, name := range []string{"a", "", "A"} {
		answers(t, "Create", d.Create(name), api.ErrNone)
		answers(t, "Append", d.Append(name, nil), api.ErrNone)
		answers(t, "Append", d.Append(name, make([]byte, 100)), api.ErrNone)
		answers(t, "Sync", d.Sync(name), api.ErrNone)
		answers(t, "Rename", d.Rename(name, name), api.ErrNone)
		answers(t, "Rename", d.Rename("a", name), api.ErrNone)
		answers(t, "Delete", d.Delete(name), api.ErrNone)
	}
	answers(t, "Arm", d.Arm(1), api.ErrNone)
	answers(t, "Arm", d.Arm(-1), api.ErrNone)
	answers(t, "Crash", d.Crash(nil, 0), api.ErrNone)
	answers(t, "Crash", d.Crash([]int{1}, 1), api.ErrNone)
	has(t, d, 0)
	power(t, d, false, 0)
	if n := d.Crashes(); n != 0 {
		t.Errorf("Crashes: %d", n)
	}
}

// A caller may write over what it handed in.
func TestBytesAreNotKept(t *testing.T) {
	d := room(t, 100)
	p := bytes.Repeat([]byte{0xa5}, 16)
	copy(p, "123")
	fine(t, d.Create("a"), d.Append("a", p[:3]), d.Append("a", p[:3]))
	if !bytes.Equal(p, append([]byte("123"), bytes.Repeat([]byte{0xa5}, 13)...)) {
		t.Errorf("the argument has changed: %x", p)
	}
	clear(p)
	holds(t, d, "a", "123123")
	fine(t, d.Append("a", []byte("4")), d.Crash([]int{5}, 1))
	if !bytes.Equal(p, make([]byte, 16)) {
		t.Errorf("the argument has changed: %x", p)
	}
}

func TestKeepIsNotChanged(t *testing.T) {
	d := room(t, 100)
	fine(t, d.Create("a"), d.Create("b"), d.Append("a", []byte("123")), d.Append("b", []byte("456")))
	keep := []int{2, -5, 77, 9}
	fine(t, d.Crash(keep[:2], 1))
	if !slices.Equal(keep, []int{2, -5, 77, 9}) {
		t.Errorf("keep has changed: %v", keep)
	}
}

// What is answered may be written over, spare room included.
func TestAnswersAreNewMemory(t *testing.T) {
	d := filled(t, 100, "a", "123", "b", "45")
	first, _ := d.Read("a")
	second, _ := d.Read("a")
	names, again := d.List(), d.List()
	spare := first[:cap(first)]
	for i := range spare {
		spare[i] = 'x'
	}
	long := names[:cap(names)]
	for i := range long {
		long[i] = "spoilt"
	}
	if string(second) != "123" || !slices.Equal(again, []string{"a", "b"}) {
		t.Errorf("an earlier answer has changed: %q, %q", second, again)
	}
	holds(t, d, "a", "123")
	has(t, d, 5, "a", "b")
	fine(t, d.Append("a", []byte("678")))
	holds(t, d, "a", "123678")
	if !bytes.Equal(spare, bytes.Repeat([]byte{'x'}, len(spare))) {
		t.Errorf("an answer has changed behind the call: %q", spare)
	}
}

// A file's own bytes may be appended to it.
func TestAppendWhatWasRead(t *testing.T) {
	d := filled(t, 100, "a", "123")
	p, _ := d.Read("a")
	fine(t, d.Append("a", p), d.Append("a", p))
	holds(t, d, "a", "123123123")
}
