package edit_test

import (
	"bytes"
	"math"
	"strings"
	"testing"

	"bartizan/api"
	"bartizan/atom"
	"bartizan/edit"
	"bartizan/reel"
)

const longest = api.MaxKey + 1

type form struct {
	e edit.Edit
	p string
}

// forms answers edits, and their bytes written out.
func forms() []form {
	long := strings.Repeat("x", longest)
	return []form{
		{edit.Edit{}, "\x00\x00\x00\x00\x00"},
		{edit.Edit{Next: 1, Drop: []uint64{}, Add: []edit.Line{}}, "\x01\x00\x00\x00\x00"},
		{edit.Edit{Next: 5, Seq: 9, Log: 2}, "\x05\x09\x02\x00\x00"},
		{edit.Edit{Next: 5, Seq: 9, Add: lines(edit.Line{Number: 3, From: []byte("a"), To: []byte("c"), Last: 9})},
			"\x05\x09\x00\x00\x01\x00\x03\x01a\x01c\x09"},
		{edit.Edit{Next: 5, Seq: 9, Drop: numbers(3), Add: lines(edit.Line{Level: 1, Number: 4, From: []byte("a"), To: []byte("c"), Last: 9})},
			"\x05\x09\x00\x01\x03\x01\x01\x04\x01a\x01c\x09"},
		{edit.Edit{Next: 241, Seq: 2288, Log: 67824, Drop: numbers(240, 0, 2287, 240)},
			"\xf1\x01\xf9\x00\x00\xfa\x01\x08\xf0\x04\xf0\x00\xf8\xff\xf0\x00"},
		{edit.Edit{Next: 9, Drop: numbers(7, 6), Add: lines(line(2, 8, "b", "bc"), line(0, 5, "aa", "d"))},
			"\x09\x00\x00\x02\x07\x06\x02\x02\x08\x01b\x02bc\x08\x00\x05\x02aa\x01d\x05"},
		// What no state would take has bytes, too.
		{edit.Edit{Next: math.MaxUint64, Seq: math.MaxUint64, Log: math.MaxUint64},
			strings.Repeat("\xff\xff\xff\xff\xff\xff\xff\xff\xff", 3) + "\x00\x00"},
		{edit.Edit{Add: make([]edit.Line, 2)}, "\x00\x00\x00\x00\x02\x00\x00\x00\x00\x00\x00\x00\x00\x00\x00"},
		{edit.Edit{Add: lines(edit.Line{Level: 1<<31 - 1, Number: math.MaxUint64, From: []byte("b"), To: []byte("a"), Last: math.MaxUint64})},
			"\x00\x00\x00\x00\x01\xfb\x7f\xff\xff\xff\xff\xff\xff\xff\xff\xff\xff\xff\xff\x01b\x01a\xff\xff\xff\xff\xff\xff\xff\xff\xff"},
		{edit.Edit{Next: 2, Add: lines(edit.Line{Level: 3, Number: 1, From: []byte(long), To: []byte(long), Last: 1})},
			"\x02\x00\x00\x00\x01\x03\x01\x41" + long + "\x41" + long + "\x01"},
	}
}

// greatest makes the edit that has the most bytes.
func greatest() edit.Edit {
	e := edit.Edit{Next: math.MaxUint64, Seq: math.MaxUint64, Log: math.MaxUint64}
	for i := range 100 {
		e.Drop = append(e.Drop, math.MaxUint64)
		e.Add = append(e.Add, edit.Line{
			Level: 1<<31 - 1, Number: math.MaxUint64, Last: math.MaxUint64,
			From: bytes.Repeat([]byte{byte(i)}, longest), To: bytes.Repeat([]byte{byte(255 - i)}, longest),
		})
	}
	return e
}

func TestBytes(t *testing.T) {
	for _, f := range forms() {
		if p, err := edit.Bytes(f.e); string(p) != f.p || err != api.OK {
			t.Errorf("Bytes(%s) = % x, %d, want % x", toldEdit(f.e), p, err, f.p)
		}
	}
}

func TestBytesOfWrong(t *testing.T) {
	long := strings.Repeat("x", longest+1)
	// Each is refused alone, and among others.
	refused := func(l edit.Line, want api.Errno) {
		t.Helper()
		good := line(0, 1, "a", "b")
		for _, add := range [][]edit.Line{{l}, {good, l}, {l, good}, append(row(0, 99, 1), l)} {
			if p, err := edit.Bytes(edit.Edit{Next: 5, Add: add}); len(p) != 0 || err != want {
				t.Errorf("Bytes with %s = % x, %d, want %d", told(lines(l)), p, err, want)
			}
		}
	}
	for _, level := range []int{-1, math.MinInt, 1 << 31, math.MaxInt} {
		refused(line(level, 1, "a", "b"), api.ErrArg)
		refused(line(level, 1, long, "b"), api.ErrArg)
	}
	refused(line(0, 1, long, "b"), api.ErrLong)
	refused(line(0, 1, "a", long), api.ErrLong)
	refused(line(0, 1, long, long), api.ErrLong)
	refused(line(1<<31-1, 0, "", strings.Repeat("x", 5000)), api.ErrLong)
	// A Level that is none goes first, wherever it stands.
	for _, add := range [][]edit.Line{{line(0, 1, long, "b"), line(-1, 1, "a", "b")}, {line(-1, 1, "a", "b"), line(0, 1, long, "b")}} {
		if p, err := edit.Bytes(edit.Edit{Add: add}); len(p) != 0 || err != api.ErrArg {
			t.Errorf("Bytes of %s = % x, %d", told(add), p, err)
		}
	}
}

func TestBytesOfTooMany(t *testing.T) {
	long := lines(line(0, 1, strings.Repeat("x", longest+1), ""))
	for _, e := range []edit.Edit{
		{Drop: make([]uint64, 101)},
		{Drop: make([]uint64, 1000)},
		{Add: row(0, 101, 1)},
		{Add: make([]edit.Line, 101)},
		{Add: make([]edit.Line, 1000)},
		{Drop: make([]uint64, 101), Add: row(0, 101, 1)},
		{Drop: make([]uint64, 101), Add: long},
		{Add: append(row(0, 100, 1), long...)},
	} {
		if p, err := edit.Bytes(e); len(p) != 0 || err != api.ErrArg {
			t.Errorf("Bytes(%s) = % x, %d", toldEdit(e), p, err)
		}
	}
}

func TestRead(t *testing.T) {
	for _, f := range forms() {
		if e, err := edit.Read([]byte(f.p)); toldEdit(e) != toldEdit(f.e) || err != api.OK {
			t.Errorf("Read(% x) = %s, %d, want %s", f.p, toldEdit(e), err, toldEdit(f.e))
		}
	}
}

func TestReadOfTheGreatest(t *testing.T) {
	was := greatest()
	p, err := edit.Bytes(was)
	if err != api.OK || len(p) > api.MaxRecord {
		t.Fatal(len(p), err)
	}
	if e, err := edit.Read(p); toldEdit(e) != toldEdit(was) || err != api.OK {
		t.Errorf("Read(Bytes) of %d bytes: %d", len(p), err)
	}
	refusesRead(t, string(p[:len(p)-1]))
	refusesRead(t, string(p)+"\x00")
}

func refusesRead(t *testing.T, p string) {
	t.Helper()
	if e, err := edit.Read([]byte(p)); toldEdit(e) != toldEdit(edit.Edit{}) || err != api.ErrForm {
		t.Errorf("Read(% x) = %s, %d", p, toldEdit(e), err)
	}
}

func TestReadOfWhatEndsTooEarlyOrTooLate(t *testing.T) {
	if e, err := edit.Read(nil); toldEdit(e) != toldEdit(edit.Edit{}) || err != api.ErrForm {
		t.Errorf("Read(nil) = %s, %d", toldEdit(e), err)
	}
	for _, f := range forms() {
		for size := range len(f.p) {
			refusesRead(t, f.p[:size])
		}
		refusesRead(t, f.p+"\x00")
		refusesRead(t, f.p+"\x01")
		refusesRead(t, f.p+f.p)
	}
}

// joined makes one text of numbers.
func joined(l ...uint64) string {
	var p []byte
	for _, n := range l {
		p = append(p, atom.Num(n)...)
	}
	return string(p)
}

func TestReadOfNoEdit(t *testing.T) {
	long := string(atom.Text(bytes.Repeat([]byte("x"), longest+1)))
	for _, p := range []string{
		// More than 100, which are all there, or are not.
		joined(make([]uint64, 3)...) + joined(101) + joined(make([]uint64, 101)...) + "\x00",
		joined(make([]uint64, 4)...) + joined(101) + strings.Repeat("\x00\x00\x00\x00\x00", 101),
		joined(0, 0, 0, 101),
		joined(0, 0, 0, 0, 101),
		joined(0, 0, 0, math.MaxUint64),
		joined(0, 0, 0, 0, math.MaxUint64),
		joined(0, 0, 0, 1<<32, 0),
		joined(0, 0, 0, 0, 1<<32),
		// Levels that have no bytes, but as numbers.
		joined(0, 0, 0, 0, 1, 1<<31, 1) + "\x01a\x01b\x01",
		joined(0, 0, 0, 0, 1, 1<<32, 1) + "\x01a\x01b\x01",
		joined(0, 0, 0, 0, 1, 1<<32+1, 1) + "\x01a\x01b\x01",
		joined(0, 0, 0, 0, 1, math.MaxUint64, 1) + "\x01a\x01b\x01",
		// Texts that are too long, or aren't there.
		joined(0, 0, 0, 0, 1, 0, 1) + long + "\x01b\x01",
		joined(0, 0, 0, 0, 1, 0, 1) + "\x01a" + long + "\x01",
		joined(0, 0, 0, 0, 1, 0, 1) + "\x01a\x09b\x01",
		joined(0, 0, 0, 0, 1, 0, 1) + "\x01a" + joined(math.MaxUint64) + "b\x01",
		// Fewer are there than are told, and more.
		"\x05\x09\x00\x02\x03\x00",
		"\x05\x09\x00\x00\x02\x00\x03\x01a\x01c\x09",
		"\x05\x09\x00\x00\x00\x00\x03\x01a\x01c\x09",
		// Numbers in another form.
		"\xfa\x00\x00\x05\x09\x02\x00\x00",
		"\x05\xfa\x00\x00\x09\x02\x00\x00",
		"\x05\x09\xfa\x00\x00\x02\x00\x00",
		"\x05\x09\x02\xfa\x00\x00\x00\x00",
		"\x05\x09\x02\x00\xfa\x00\x00\x00",
		"\x05\x09\x00\x01\xfa\x00\x00\x03\x00",
		"\x05\x09\x00\x00\x01\xfa\x00\x00\x00\x03\x01a\x01c\x09",
		"\x05\x09\x00\x00\x01\x00\xfa\x00\x00\x03\x01a\x01c\x09",
		"\x05\x09\x00\x00\x01\x00\x03\xfa\x00\x00\x01a\x01c\x09",
		"\x05\x09\x00\x00\x01\x00\x03\x01a\xfa\x00\x00\x01c\x09",
		"\x05\x09\x00\x00\x01\x00\x03\x01a\x01c\xfa\x00\x00\x09",
		strings.Repeat("\x00", 6),
		strings.Repeat("\x00", 5000),
		strings.Repeat("\xff", 5000),
	} {
		refusesRead(t, p)
	}
}

// Whatever is read has no other bytes than those that were read.
func TestReadOfChangedBytes(t *testing.T) {
	for _, f := range forms() {
		for i := range f.p {
			for b := range 256 {
				p := []byte(f.p)
				p[i] = byte(b)
				e, err := edit.Read(p)
				if err == api.OK {
					if q, err := edit.Bytes(e); !bytes.Equal(p, q) || err != api.OK {
						t.Errorf("Bytes(Read(% x)) = % x, %d", p, q, err)
					}
				} else if err != api.ErrForm || toldEdit(e) != toldEdit(edit.Edit{}) {
					t.Errorf("Read(% x) = %s, %d", p, toldEdit(e), err)
				}
			}
		}
	}
}

// reelOf makes a reel of these records, and tells where each ends.
func reelOf(t *testing.T, l ...string) ([]byte, []int) {
	t.Helper()
	var p []byte
	var ends []int
	for _, r := range l {
		f, err := reel.Frame(len(p), []byte(r))
		if err != api.OK {
			t.Fatal(err)
		}
		p = append(p, f...)
		ends = append(ends, len(p))
	}
	return p, ends
}

// bytesOf fails unless the edit has bytes.
func bytesOf(t *testing.T, e edit.Edit) string {
	t.Helper()
	p, err := edit.Bytes(e)
	if err != api.OK {
		t.Fatalf("Bytes(%s) = %d", toldEdit(e), err)
	}
	return string(p)
}

// history answers edits that follow one another, as records, and what is told of the state ahead of each, and behind all.
func history(t *testing.T) (records, states []string) {
	t.Helper()
	s := edit.New()
	for _, e := range []edit.Edit{
		{Next: 5, Seq: 9, Log: 1, Add: lines(line(0, 2, "a", "c"), line(0, 3, "b", "d"), line(1, 4, "a", "m"))},
		{Next: 5, Seq: 9, Log: 1},
		{Next: 6, Seq: 9, Log: 2, Drop: numbers(2, 3), Add: lines(line(1, 5, "m", "z"))},
		{Next: 300, Seq: 3000, Log: 70000, Drop: numbers(4, 5), Add: append(row(2, 40, 100), row(0, 10, 200)...)},
		{Next: 300, Seq: api.MaxSeq, Log: 70000, Drop: numbersOf(40, 100)},
	} {
		records = append(records, bytesOf(t, e))
		states = append(states, toldState(s))
		applies(t, s, e)
	}
	return records, append(states, toldState(s))
}

// replays fails unless so many edits make that state.
func replays(t *testing.T, p []byte, want string, count int) {
	t.Helper()
	if s, n := edit.Replay(p); s == nil || n != count || toldState(s) != want {
		t.Errorf("Replay of %d bytes: %s, %d, want %s, %d", len(p), toldState(s), n, want, count)
	}
}

func TestReplay(t *testing.T) {
	records, states := history(t)
	for n := range states {
		p, _ := reelOf(t, records[:n]...)
		replays(t, p, states[n], n)
	}
}

func TestReplayOfNone(t *testing.T) {
	records, states := history(t)
	for _, p := range [][]byte{nil, {}, make([]byte, 7), make([]byte, 200), []byte(records[0]), []byte(strings.Repeat("x", 200))} {
		replays(t, p, states[0], 0)
	}
}

func TestReplayOfACutOrChangedReel(t *testing.T) {
	records, states := history(t)
	p, ends := reelOf(t, records...)
	for i := range p {
		// What lies whole ahead of the place is done, and nothing behind it.
		n := 0
		for n < len(ends) && ends[n] <= i {
			n++
		}
		replays(t, p[:i], states[n], n)
		q := bytes.Clone(p)
		q[i] ^= 1 << (i % 8)
		replays(t, q, states[n], n)
	}
}

func TestReplayUpToARecordThatIsNone(t *testing.T) {
	records, states := history(t)
	for _, none := range []string{"", "\x00", "\x05\x09\x02\x00", records[0] + "\x00", records[1][1:] + "\x00\x00", strings.Repeat("x", 100)} {
		for n := range states {
			l := append(append(append([]string{}, records[:n]...), none), records[n:]...)
			p, _ := reelOf(t, l...)
			replays(t, p, states[n], n)
		}
	}
}

func TestReplayUpToAnEditThatIsRefused(t *testing.T) {
	records, states := history(t)
	for _, e := range []edit.Edit{
		{Next: 0},
		{Next: 1000, Seq: api.MaxSeq + 1, Log: 70000},
		{Next: 1000, Seq: api.MaxSeq, Log: 70000, Drop: numbers(999)},
		{Next: 1000, Seq: api.MaxSeq, Log: 70000, Add: lines(line(3, 999, "a", "b"))},
		{Next: 1000, Seq: api.MaxSeq, Log: 70000, Add: lines(line(2, 999, "x", "z"), line(2, 998, "y", "z"))},
	} {
		for n := range states {
			l := append(append(append([]string{}, records[:n]...), bytesOf(t, e)), records[n:]...)
			p, _ := reelOf(t, l...)
			replays(t, p, states[n], n)
		}
	}
	// An edit is refused by what went ahead of it.
	p, _ := reelOf(t, records[0], records[2], records[2], records[3])
	replays(t, p, states[3], 2)
	p, _ = reelOf(t, records[1:]...)
	replays(t, p, toldState(after(t, edit.Edit{Next: 5, Seq: 9, Log: 1})), 1)
}

// after makes the state behind these edits.
func after(t *testing.T, l ...edit.Edit) *edit.State {
	t.Helper()
	s := edit.New()
	for _, e := range l {
		applies(t, s, e)
	}
	return s
}

func TestReplayMakesAStateThatGoesOn(t *testing.T) {
	records, states := history(t)
	p, _ := reelOf(t, records[:3]...)
	s, _ := edit.Replay(p)
	again, _ := edit.Replay(p)
	e, err := edit.Read([]byte(records[3]))
	if err != api.OK {
		t.Fatal(err)
	}
	applies(t, s, e)
	if toldState(s) != states[4] || toldState(again) != states[3] {
		t.Errorf("%s, %s", toldState(s), toldState(again))
	}
}
