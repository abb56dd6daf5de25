package entry_test

import (
	"bytes"
	"slices"
	"testing"

	"bartizan/api"
	"bartizan/entry"
	"bartizan/reel"
)

// reelOf makes a reel of these records.
func reelOf(t *testing.T, l ...string) []byte {
	t.Helper()
	var p []byte
	for _, r := range l {
		f, err := reel.Frame(len(p), []byte(r))
		if err != api.OK {
			t.Fatal(err)
		}
		p = append(p, f...)
	}
	return p
}

// all answers the entries of forms, and their bytes.
func all() (l []entry.Note, records []string) {
	for _, f := range forms() {
		l = append(l, f.n)
		records = append(records, f.p)
	}
	return l, records
}

// replays asks for the entries of a reel.
func replays(t *testing.T, p []byte, want []entry.Note) {
	t.Helper()
	if l, n := entry.Replay(p); n != len(want) || !slices.EqualFunc(l, want, same) {
		t.Errorf("Replay of %d bytes: %v, %d, want %d", len(p), l, n, len(want))
	}
}

func TestLog(t *testing.T) {
	l, records := all()
	for n := range len(l) + 1 {
		if p, err := entry.Log(l[:n]); !bytes.Equal(p, reelOf(t, records[:n]...)) || err != api.OK {
			t.Errorf("Log of %d: %d bytes, %d", n, len(p), err)
		}
	}
	for _, l := range [][]entry.Note{nil, {}} {
		if p, err := entry.Log(l); len(p) != 0 || err != api.OK {
			t.Errorf("Log of none = % x, %d", p, err)
		}
	}
}

func TestLogOfTheGreatest(t *testing.T) {
	l := slices.Repeat([]entry.Note{greatest(), note(entry.Undo, 0, "a")}, 3)
	p, err := entry.Log(l)
	if err != api.OK {
		t.Fatal(err)
	}
	replays(t, p, l)
}

func TestLogOfWrong(t *testing.T) {
	right, _ := all()
	for _, n := range wrong() {
		for _, l := range [][]entry.Note{{n}, {right[0], n}, {n, right[0]}, append(slices.Clone(right), n)} {
			if p, err := entry.Log(l); len(p) != 0 || err != api.ErrForm {
				t.Errorf("Log of %d with %v = % x, %d", len(l), n, p, err)
			}
		}
	}
}

func TestReplayTurnsLogAbout(t *testing.T) {
	l, _ := all()
	for n := range len(l) + 1 {
		p, err := entry.Log(l[:n])
		if err != api.OK {
			t.Fatal(err)
		}
		replays(t, p, l[:n])
	}
	many := slices.Repeat(l, 20)
	p, _ := entry.Log(many)
	replays(t, p, many)
}

func TestReplayOfNone(t *testing.T) {
	for _, p := range [][]byte{nil, {}, make([]byte, 7), make([]byte, 200), []byte(text(200)), []byte(forms()[0].p)} {
		replays(t, p, nil)
	}
}

// ends tells where each of the records ends in its reel.
func ends(t *testing.T, records []string) []int {
	t.Helper()
	var l []int
	for n := range records {
		l = append(l, len(reelOf(t, records[:n+1]...)))
	}
	return l
}

func TestReplayOfACutOrChangedLog(t *testing.T) {
	l, records := all()
	p, _ := entry.Log(l)
	at := ends(t, records)
	for i := range p {
		// What lies whole ahead of the place is there, and nothing behind it.
		n := 0
		for n < len(at) && at[n] <= i {
			n++
		}
		replays(t, p[:i], l[:n])
		for bit := range 8 {
			q := bytes.Clone(p)
			q[i] ^= 1 << bit
			replays(t, q, l[:n])
		}
	}
}

func TestReplayUpToARecordThatIsNone(t *testing.T) {
	l, records := all()
	for _, none := range []string{"", "\x00", "\x03\x05\x01a", "\x03\x05\x01a\x00\x00", "\x05\x05\x01a\x00", "\x04\x01\x01a\x00", text(100)} {
		for n := range records {
			p := reelOf(t, slices.Insert(slices.Clone(records), n, none)...)
			replays(t, p, l[:n])
		}
		replays(t, reelOf(t, none, none), nil)
	}
}

func TestLogMemory(t *testing.T) {
	n := roomyNote()
	spare := note(entry.Undo, 0, "spare")
	l := []entry.Note{n, n, spare}
	first, _ := entry.Log(l[:2])
	second, _ := entry.Log(l[:2])
	spoil(first)
	if !untouchedNote(n) || !untouchedNote(l[0]) || !untouchedNote(l[1]) || !same(l[2], note(entry.Undo, 0, "spare")) {
		t.Errorf("an answer shares memory: %v", l)
	}
	spoilNote(n)
	clear(l)
	if !bytes.Equal(second, reelOf(t, roomyBytes, roomyBytes)) {
		t.Errorf("an answer follows its argument, or an earlier one: % x", second)
	}
}

func TestReplayMemory(t *testing.T) {
	want := note(entry.Prepare, 0, "p", put("b", "x"), span("a", "c"))
	was := string(reelOf(t, roomyBytes, roomyBytes))
	p := roomy(was)
	first, _ := entry.Replay(p)
	second, _ := entry.Replay(p)
	spoilNote(first[0])
	if !same(first[1], want) {
		t.Errorf("two entries share memory: %v", first)
	}
	spoilNote(first[1])
	clear(first[:cap(first)])
	if !untouched(p, was) {
		t.Errorf("an answer shares memory: % x", p)
	}
	spoil(p)
	if !slices.EqualFunc(second, []entry.Note{want, want}, same) {
		t.Errorf("an answer follows its argument, or an earlier one: %v", second)
	}
}
