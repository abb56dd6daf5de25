package edit_test

import (
	"bytes"
	"slices"
	"testing"

	"bartizan/edit"
)

// roomy copies p in front of spare room whose bytes are known.
func roomy(p string) []byte {
	q := bytes.Repeat([]byte{0xa5}, len(p)+16)
	copy(q, p)
	return q[:len(p)]
}

// untouched tells whether q, which roomy made of p, is as it was.
func untouched(q []byte, p string) bool {
	return bytes.Equal(q[:len(p)+16], append([]byte(p), bytes.Repeat([]byte{0xa5}, 16)...))
}

// spoil writes over bytes and their spare room.
func spoil(p []byte) {
	p = p[:cap(p)]
	for i := range p {
		p[i] = 0x5a
	}
}

// spoilLines writes over lines, all that they hold, and all spare room.
func spoilLines(l []edit.Line) {
	l = l[:cap(l)]
	for i := range l {
		spoil(l[i].From)
		spoil(l[i].To)
		l[i] = line(9, 99, "spoilt", "spoilt")
	}
}

// spoilEdit writes over all that an edit holds, and all spare room.
func spoilEdit(e edit.Edit) {
	drop := e.Drop[:cap(e.Drop)]
	for i := range drop {
		drop[i] = 99
	}
	spoilLines(e.Add)
}

func roomyLine(level int, number uint64, from, to string) edit.Line {
	return edit.Line{Level: level, Number: number, From: roomy(from), To: roomy(to), Last: number}
}

// roomyEdit makes an edit that base takes; the spare room of its lists holds one more.
func roomyEdit() edit.Edit {
	drop := numbers(6, 2, 77)
	add := lines(roomyLine(1, 15, "f", "g"), roomyLine(0, 16, "x", "y"), roomyLine(1, 77, "spare", "spares"))
	return edit.Edit{Next: 20, Seq: 20, Log: 3, Drop: drop[:2], Add: add[:2]}
}

func untouchedEdit(e edit.Edit) bool {
	drop, add := e.Drop[:3], e.Add[:3]
	same := toldEdit(e) == `next 20 seq 20 log 3 drop [6 2] add 1:15:"f"-"g"@15 0:16:"x"-"y"@16`
	return same && slices.Equal(drop, numbers(6, 2, 77)) && told(add[2:]) == `1:77:"spare"-"spares"@77` &&
		untouched(add[0].From, "f") && untouched(add[0].To, "g") && untouched(add[1].From, "x") &&
		untouched(add[1].To, "y") && untouched(add[2].From, "spare") && untouched(add[2].To, "spares")
}

func TestApplyMemory(t *testing.T) {
	s, e := base(t), roomyEdit()
	applies(t, s, e)
	was := toldState(s)
	spoilLines(s.Level(1))
	if !untouchedEdit(e) {
		t.Errorf("changed: %s", toldEdit(e))
	}
	spoilEdit(e)
	if toldState(s) != was {
		t.Errorf("the state follows its edit: %s, want %s", toldState(s), was)
	}
}

func TestApplyThatIsRefusedTouchesNothing(t *testing.T) {
	for _, change := range []func(s *edit.State){
		func(s *edit.State) { applies(t, s, edit.Edit{Next: 21, Seq: 20, Log: 3}) },
		func(s *edit.State) { applies(t, s, edit.Edit{Next: 10, Seq: 20, Log: 3, Drop: numbers(2)}) },
		func(s *edit.State) {
			applies(t, s, edit.Edit{Next: 20, Seq: 20, Log: 3, Add: lines(line(0, 15, "a", "b"))})
		},
	} {
		s, e := base(t), roomyEdit()
		change(s)
		was := toldState(s)
		if s.Apply(e) == 0 || !untouchedEdit(e) || toldState(s) != was {
			t.Errorf("%s, %s, want %s", toldEdit(e), toldState(s), was)
		}
	}
}

func TestAnswersOfAStateAreApart(t *testing.T) {
	s := base(t)
	was := toldState(s)
	for _, ask := range []func() []edit.Line{
		func() []edit.Line { return s.Level(0) },
		func() []edit.Line { return s.Level(1) },
		func() []edit.Line { return s.Over(0, nil, nil) },
		func() []edit.Line { return s.Over(2, []byte("a"), []byte("z")) },
		func() []edit.Line { return s.Whole().Add },
		func() []edit.Line { return s.Copy().Level(1) },
		func() []edit.Line { return s.Copy().Whole().Add },
	} {
		first, second := ask(), ask()
		want := told(second)
		spoilLines(first)
		if toldState(s) != was || told(second) != want {
			t.Errorf("an answer shares memory: %s", toldState(s))
		}
		linesAreApart(t, second)
	}
	n := s.Numbers()
	n = n[:cap(n)]
	for i := range n {
		n[i] = 99
	}
	if toldState(s) != was {
		t.Errorf("Numbers shares memory: %s", toldState(s))
	}
}

// linesAreApart fails if a bound's memory, spare room too, is another one's.
func linesAreApart(t *testing.T, l []edit.Line) {
	t.Helper()
	for i := range l {
		for _, at := range []*[]byte{&l[i].From, &l[i].To} {
			want := told(l)
			was := bytes.Clone(*at)
			spoil(*at)
			*at = was
			if told(l) != want {
				t.Errorf("line %d shares memory: %s, want %s", i, told(l), want)
			}
		}
	}
}

func TestOverTouchesNothing(t *testing.T) {
	s := base(t)
	for _, c := range [][2]string{{"a", "z"}, {"", ""}, {"z", "a"}} {
		from, to := roomy(c[0]), roomy(c[1])
		l := s.Over(0, from, to)
		spoilLines(l)
		if !untouched(from, c[0]) || !untouched(to, c[1]) {
			t.Errorf("%q, %q", from, to)
		}
	}
}

const roomyBytes = "\x14\x14\x03\x02\x06\x02\x02\x01\x0f\x01f\x01g\x0f\x00\x10\x01x\x01y\x10"

func TestBytesMemory(t *testing.T) {
	e := roomyEdit()
	first, _ := edit.Bytes(e)
	second, _ := edit.Bytes(e)
	spoil(first)
	if !untouchedEdit(e) {
		t.Errorf("an answer shares memory: %s", toldEdit(e))
	}
	spoilEdit(e)
	if string(second) != roomyBytes {
		t.Errorf("an answer follows its argument, or an earlier one: % x", second)
	}
}

func TestReadMemory(t *testing.T) {
	p := roomy(roomyBytes)
	first, _ := edit.Read(p)
	second, _ := edit.Read(p)
	spoilEdit(first)
	if !untouched(p, roomyBytes) {
		t.Errorf("an answer shares memory: % x", p)
	}
	spoil(p)
	if toldEdit(second) != toldEdit(roomyEdit()) {
		t.Errorf("an answer follows its argument, or an earlier one: %s", toldEdit(second))
	}
	linesAreApart(t, second.Add)
}

func TestReadThatGivesUpTouchesNothing(t *testing.T) {
	for size := range len(roomyBytes) {
		p := roomy(roomyBytes[:size])
		edit.Read(p)
		if !untouched(p, roomyBytes[:size]) {
			t.Errorf("% x of % x", p, roomyBytes[:size])
		}
		// The spare room has the rest of the edit, which isn't handed in.
		refusesRead(t, roomyBytes[:size])
		if _, err := edit.Read([]byte(roomyBytes)[:size]); err == 0 {
			t.Errorf("% x was read", roomyBytes[:size])
		}
	}
}

func TestReplayMemory(t *testing.T) {
	records, states := history(t)
	q, _ := reelOf(t, records...)
	p := roomy(string(q))
	s, _ := edit.Replay(p)
	spoilLines(s.Level(0))
	if !untouched(p, string(q)) {
		t.Error("the reel was changed")
	}
	spoil(p)
	if toldState(s) != states[len(records)] {
		t.Errorf("the state follows the reel: %s", toldState(s))
	}
}
