package edit_test

import (
	"fmt"
	"math"
	"slices"
	"strings"
	"testing"

	"bartizan/api"
	"bartizan/edit"
)

func line(level int, number uint64, from, to string) edit.Line {
	return edit.Line{Level: level, Number: number, From: []byte(from), To: []byte(to), Last: number}
}

func lines(l ...edit.Line) []edit.Line {
	return l
}

func numbers(l ...uint64) []uint64 {
	return l
}

// told writes lines as one text.
func told(l []edit.Line) string {
	var all []string
	for _, x := range l {
		all = append(all, fmt.Sprintf("%d:%d:%q-%q@%d", x.Level, x.Number, x.From, x.To, x.Last))
	}
	return strings.Join(all, " ")
}

// toldEdit writes an edit as one text.
func toldEdit(e edit.Edit) string {
	drop := fmt.Sprint(append([]uint64{}, e.Drop...))
	return fmt.Sprintf("next %d seq %d log %d drop %s add %s", e.Next, e.Seq, e.Log, drop, told(e.Add))
}

// toldNumbers writes the lines' Numbers as one text.
func toldNumbers(l []edit.Line) string {
	var all []string
	for _, x := range l {
		all = append(all, fmt.Sprint(x.Number))
	}
	return strings.Join(all, " ")
}

// toldState writes all that a state tells.
func toldState(s *edit.State) string {
	all := []string{toldEdit(s.Whole()), fmt.Sprint(append([]uint64{}, s.Numbers()...))}
	for level := range api.Levels {
		all = append(all, told(s.Level(level)), told(s.Over(level, nil, nil)))
	}
	return strings.Join(all, "; ")
}

// applies fails unless the edit is taken.
func applies(t *testing.T, s *edit.State, e edit.Edit) {
	t.Helper()
	if err := s.Apply(e); err != api.OK {
		t.Fatalf("Apply(%s) = %d", toldEdit(e), err)
	}
}

// refuses fails unless the edit is refused so, and leaves all as it was.
func refuses(t *testing.T, s *edit.State, e edit.Edit, want api.Errno) {
	t.Helper()
	was := toldState(s)
	if err := s.Apply(e); err != want {
		t.Errorf("Apply(%s) = %d, want %d", toldEdit(e), err, want)
	}
	if now := toldState(s); now != was {
		t.Errorf("Apply(%s) made %s of %s", toldEdit(e), now, was)
	}
}

// base makes a state of lines on all levels: Next 10, Seq 20, Log 3.
func base(t *testing.T) *edit.State {
	t.Helper()
	s := edit.New()
	applies(t, s, edit.Edit{Next: 10, Seq: 20, Log: 3, Add: lines(
		line(2, 1, "k", "p"), line(0, 2, "a", "z"), line(1, 7, "m", "q"), line(0, 5, "c", "d"),
		line(1, 3, "a", "c"), line(0, 4, "a", "z"), line(1, 6, "f", "h"), line(2, 8, "a", "k"),
	)})
	return s
}

// with makes an edit that base takes, if it takes these lines.
func with(l ...edit.Line) edit.Edit {
	return edit.Edit{Next: 20, Seq: 20, Log: 3, Add: l}
}

func TestTheFirstState(t *testing.T) {
	s := edit.New()
	if got := toldState(s); got != "next 1 seq 0 log 0 drop [] add ; []; ; ; ; ; ; " {
		t.Error(got)
	}
	applies(t, s, edit.Edit{Next: 1})
	if got := toldEdit(s.Whole()); got != "next 1 seq 0 log 0 drop [] add " {
		t.Error(got)
	}
	refuses(t, s, edit.Edit{}, api.ErrOrder)
}

func TestTheExample(t *testing.T) {
	s := edit.New()
	applies(t, s, edit.Edit{Next: 5, Seq: 9, Add: lines(edit.Line{Number: 3, From: []byte("a"), To: []byte("c"), Last: 9})})
	four := edit.Line{Level: 1, Number: 4, From: []byte("a"), To: []byte("c"), Last: 9}
	applies(t, s, edit.Edit{Next: 5, Seq: 9, Drop: numbers(3), Add: lines(four)})
	if got := told(s.Level(1)); got != told(lines(four)) || len(s.Level(0)) != 0 {
		t.Errorf("Level(1) = %s, Level(0) = %s", got, told(s.Level(0)))
	}
	refuses(t, s, edit.Edit{Next: 6, Seq: 9, Add: lines(line(1, 5, "b", "d"))}, api.ErrForm)

	s = edit.New()
	applies(t, s, edit.Edit{Next: 5, Seq: 9, Add: lines(line(0, 3, "a", "c"))})
	refuses(t, s, edit.Edit{Next: 5, Seq: 9, Drop: numbers(3), Add: lines(four, line(1, 3, "b", "d"))}, api.ErrForm)
}

func TestOfANilState(t *testing.T) {
	var s *edit.State
	for _, e := range []edit.Edit{{}, {Next: 1}, {Seq: math.MaxUint64}, {Next: 9, Drop: numbers(1)}, {Next: 9, Drop: make([]uint64, 101)}, {Next: 9, Add: make([]edit.Line, 1)}} {
		if err := s.Apply(e); err != api.ErrNone {
			t.Errorf("Apply(%s) = %d", toldEdit(e), err)
		}
	}
	for _, n := range []int{-1, 0, 1, 2, 3} {
		if len(s.Level(n)) != 0 || len(s.Over(n, nil, nil)) != 0 || len(s.Over(n, []byte("a"), []byte("b"))) != 0 {
			t.Errorf("level %d has lines", n)
		}
	}
	if len(s.Numbers()) != 0 || toldEdit(s.Whole()) != toldEdit(edit.Edit{}) || s.Copy() != nil {
		t.Error("a nil state has something")
	}
}

func TestApply(t *testing.T) {
	s := base(t)
	want := "next 10 seq 20 log 3 drop [] add " +
		`0:5:"c"-"d"@5 0:4:"a"-"z"@4 0:2:"a"-"z"@2 ` +
		`1:3:"a"-"c"@3 1:6:"f"-"h"@6 1:7:"m"-"q"@7 ` +
		`2:8:"a"-"k"@8 2:1:"k"-"p"@1`
	if got := toldEdit(s.Whole()); got != want {
		t.Errorf("%s, want %s", got, want)
	}
	applies(t, s, edit.Edit{Next: 12, Seq: 21, Log: 9, Drop: numbers(7, 2, 1, 3), Add: lines(line(0, 11, "x", "y"), line(1, 10, "b", "f"))})
	want = "next 12 seq 21 log 9 drop [] add " +
		`0:11:"x"-"y"@11 0:5:"c"-"d"@5 0:4:"a"-"z"@4 ` +
		`1:10:"b"-"f"@10 1:6:"f"-"h"@6 ` +
		`2:8:"a"-"k"@8`
	if got := toldEdit(s.Whole()); got != want {
		t.Errorf("%s, want %s", got, want)
	}
	// Nothing goes or comes, and Next, Seq and Log rise each alone, or stay.
	for _, e := range []edit.Edit{
		{Next: 12, Seq: 21, Log: 9},
		{Next: 13, Seq: 21, Log: 9},
		{Next: 13, Seq: 22, Log: 9},
		{Next: 13, Seq: 22, Log: 10},
		{Next: math.MaxUint64, Seq: api.MaxSeq, Log: math.MaxUint64},
	} {
		applies(t, s, e)
		if w := s.Whole(); w.Next != e.Next || w.Seq != e.Seq || w.Log != e.Log || len(w.Add) != 6 {
			t.Errorf("%s behind %s", toldEdit(w), toldEdit(e))
		}
	}
	applies(t, s, edit.Edit{Next: math.MaxUint64, Seq: api.MaxSeq, Log: math.MaxUint64, Drop: numbers(4, 5, 6, 8, 10, 11)})
	if len(s.Numbers()) != 0 || len(s.Whole().Add) != 0 {
		t.Error(toldState(s))
	}
}

func TestApplyOfWhatFalls(t *testing.T) {
	s := base(t)
	refuses(t, s, edit.Edit{}, api.ErrOrder)
	for _, e := range []edit.Edit{{Next: 9, Seq: 20, Log: 3}, {Next: 10, Seq: 19, Log: 3}, {Next: 10, Seq: 20, Log: 2}, {Next: 0, Seq: 99, Log: 99}, {Next: 99, Seq: 0, Log: 99}, {Next: 99, Seq: 99, Log: 0}} {
		refuses(t, s, e, api.ErrOrder)
		// Whatever else isn't right.
		e.Drop, e.Add = make([]uint64, 101), make([]edit.Line, 101)
		refuses(t, s, e, api.ErrOrder)
	}
	refuses(t, s, edit.Edit{Next: 9, Seq: api.MaxSeq + 1, Log: 3}, api.ErrOrder)
	refuses(t, s, edit.Edit{Next: 9, Seq: 20, Log: 3, Drop: numbers(99)}, api.ErrOrder)
	refuses(t, s, edit.Edit{Next: 10, Seq: 20, Log: 2, Add: lines(line(5, 0, "", ""))}, api.ErrOrder)
}

// row makes count lines of a level whose Numbers begin with first, each beside the next.
func row(level, count int, first uint64) []edit.Line {
	var all []edit.Line
	for i := range count {
		all = append(all, line(level, first+uint64(i), fmt.Sprintf("%04d", i), fmt.Sprintf("%04d", i+1)))
	}
	return all
}

// numbersOf makes count Numbers that begin with first.
func numbersOf(count int, first uint64) []uint64 {
	var all []uint64
	for i := range count {
		all = append(all, first+uint64(i))
	}
	return all
}

func TestApplyOfTooMuch(t *testing.T) {
	s := base(t)
	for _, seq := range []uint64{api.MaxSeq + 1, math.MaxUint64} {
		refuses(t, s, edit.Edit{Next: 10, Seq: seq, Log: 3}, api.ErrArg)
		refuses(t, s, edit.Edit{Next: 10, Seq: seq, Log: 3, Drop: numbers(99)}, api.ErrArg)
		refuses(t, s, edit.Edit{Next: 10, Seq: seq, Log: 3, Add: lines(line(0, 0, "", ""))}, api.ErrArg)
	}
	// Right ones, too, but for how many they are; and wrong ones.
	refuses(t, s, edit.Edit{Next: 999, Seq: 20, Log: 3, Add: row(0, 101, 10)}, api.ErrArg)
	refuses(t, s, edit.Edit{Next: 999, Seq: 20, Log: 3, Add: make([]edit.Line, 101)}, api.ErrArg)
	refuses(t, s, edit.Edit{Next: 999, Seq: 20, Log: 3, Drop: numbersOf(101, 500)}, api.ErrArg)
	refuses(t, s, edit.Edit{Next: 999, Seq: 20, Log: 3, Drop: numbers(99), Add: row(0, 101, 10)}, api.ErrArg)

	s = edit.New()
	applies(t, s, edit.Edit{Next: 999, Add: row(1, 100, 1)})
	applies(t, s, edit.Edit{Next: 999, Add: row(2, 100, 101)})
	refuses(t, s, edit.Edit{Next: 999, Drop: numbersOf(101, 1)}, api.ErrArg)
	applies(t, s, edit.Edit{Next: 999, Drop: numbersOf(100, 1), Add: row(0, 100, 301)})
	if len(s.Level(0)) != 100 || len(s.Level(1)) != 0 || len(s.Level(2)) != 100 || len(s.Numbers()) != 200 {
		t.Error(toldState(s))
	}
	// One edit doesn't make so many lines, but they are told.
	if w := s.Whole(); len(w.Add) != 200 || told(w.Add) != told(append(s.Level(0), s.Level(2)...)) {
		t.Error(toldEdit(w))
	}
	if err := edit.New().Apply(s.Whole()); err != api.ErrArg {
		t.Error(err)
	}
}

func TestApplyOfADropThatIsNotThere(t *testing.T) {
	s := base(t)
	for _, drop := range [][]uint64{{0}, {9}, {10}, {math.MaxUint64}, {2, 9}, {9, 2}, {2, 2}, {2, 4, 2}, numbersOf(100, 1)} {
		refuses(t, s, edit.Edit{Next: 10, Seq: 20, Log: 3, Drop: drop}, api.ErrNone)
		// Whether it would be sound is not asked then; and what comes isn't there yet.
		refuses(t, s, edit.Edit{Next: 12, Seq: 20, Log: 3, Drop: drop, Add: lines(line(1, 3, "b", ""))}, api.ErrNone)
		refuses(t, s, edit.Edit{Next: 12, Seq: 20, Log: 3, Drop: drop, Add: lines(line(0, 9, "a", "b"), line(0, 10, "a", "b"))}, api.ErrNone)
	}
	applies(t, s, edit.Edit{Next: 10, Seq: 20, Log: 3, Drop: numbers(2)})
	refuses(t, s, edit.Edit{Next: 10, Seq: 20, Log: 3, Drop: numbers(2)}, api.ErrNone)
}

func TestApplyOfLinesThatAreNotRight(t *testing.T) {
	long := strings.Repeat("r", api.MaxKey+1)
	good := line(1, 12, "r", "s")
	for _, change := range []func(l *edit.Line){
		func(l *edit.Line) { l.Level = -1 },
		func(l *edit.Line) { l.Level = api.Levels },
		func(l *edit.Line) { l.Level = math.MinInt },
		func(l *edit.Line) { l.Level = math.MaxInt },
		func(l *edit.Line) { l.Number = 0 },
		func(l *edit.Line) { l.Number = 20 },
		func(l *edit.Line) { l.Number = 21 },
		func(l *edit.Line) { l.Number = math.MaxUint64 },
		func(l *edit.Line) { l.Number = 3 },
		func(l *edit.Line) { l.Number = 11 },
		func(l *edit.Line) { l.From = nil },
		func(l *edit.Line) { l.From = []byte{} },
		func(l *edit.Line) { l.From = []byte("s") },
		func(l *edit.Line) { l.From = []byte("s\x00") },
		func(l *edit.Line) { l.From = []byte("t") },
		func(l *edit.Line) { l.To = nil },
		func(l *edit.Line) { l.To = []byte{} },
		func(l *edit.Line) { l.From, l.To = nil, nil },
		func(l *edit.Line) { l.From, l.To = []byte("rr"), []byte("r") },
		func(l *edit.Line) { l.From = []byte(long + "r") },
		func(l *edit.Line) { l.To = []byte(long + "r") },
		func(l *edit.Line) { l.Last = api.MaxSeq + 1 },
		func(l *edit.Line) { l.Last = math.MaxUint64 },
	} {
		for level := range api.Levels {
			bad := good
			bad.Level = level
			s := base(t)
			applies(t, s.Copy(), with(line(0, 11, "a", "b"), bad))
			change(&bad)
			refuses(t, s, with(bad, line(0, 11, "a", "b")), api.ErrForm)
			refuses(t, s, with(line(0, 11, "a", "b"), bad), api.ErrForm)
		}
	}
}

func TestApplyOfLinesAtTheEdges(t *testing.T) {
	long := strings.Repeat("r", api.MaxKey+1)
	for _, l := range []edit.Line{
		{Level: 0, Number: 19, From: []byte("r"), To: []byte("r\x00"), Last: 0},
		{Level: 1, Number: 9, From: []byte{0}, To: []byte{0, 0}, Last: api.MaxSeq},
		{Level: 2, Number: 10, From: []byte(long[1:]), To: []byte(long), Last: 21},
		{Level: 2, Number: 10, From: []byte(long), To: []byte(long[1:] + "s"), Last: 1},
		{Level: 1, Number: 19, From: []byte("\xff"), To: []byte("\xff\xff"), Last: 1},
	} {
		s := base(t)
		applies(t, s, with(l))
		if !strings.Contains(told(s.Level(l.Level)), told(lines(l))) {
			t.Errorf("%s in %s", told(lines(l)), toldState(s))
		}
	}
}

func TestApplyOfOneNumberTwice(t *testing.T) {
	for a := range api.Levels {
		for b := range api.Levels {
			s := base(t)
			refuses(t, s, with(line(a, 11, "r", "s"), line(b, 11, "t", "u")), api.ErrForm)
			refuses(t, s, with(line(a, 11, "r", "s"), line(0, 12, "a", "b"), line(b, 11, "r", "s")), api.ErrForm)
			for _, n := range s.Numbers() {
				refuses(t, s, with(line(a, n, "r", "s")), api.ErrForm)
			}
		}
	}
	// The number of one that goes may come again.
	for _, n := range base(t).Numbers() {
		s := base(t)
		e := with(line(2, n, "x", "y"))
		e.Drop = numbers(n)
		applies(t, s, e)
		if l := s.Over(2, []byte("x"), nil); toldNumbers(l) != fmt.Sprint(n) || len(s.Numbers()) != 8 {
			t.Error(toldState(s))
		}
	}
}

func TestApplyOfLinesThatOverlap(t *testing.T) {
	const old = "f-h"
	for bounds, ok := range map[string]bool{
		"d-f": true, "h-k": true, "d-e": true, "i-k": true, "c-f": true, "h-m": true, "h\x00-m": true, "c-e\xff": true,
		old: false, "f-g": false, "g-h": false, "f\x00-g": false, "g-g\x00": false, "d-k": false, "d-g": false, "d-f\x00": false,
		"g-k": false, "g\xff-k": false, "f-k": false, "d-h": false, "a-z": false, "b-d": false, "l-n": false, "p\xff-r": false,
	} {
		from, to, _ := strings.Cut(bounds, "-")
		want := api.ErrForm
		if ok {
			want = api.OK
		}
		// With one that is there, and with one that comes too, whichever goes first.
		s := base(t)
		if err := s.Copy().Apply(with(line(1, 11, from, to))); err != want {
			t.Errorf("%q: %d, want %d", bounds, err, want)
		}
		e := with(line(1, 12, from, to), line(1, 11, "f", "h"))
		e.Drop = numbers(6)
		if err := s.Copy().Apply(e); err != want {
			t.Errorf("%q, new: %d, want %d", bounds, err, want)
		}
		slices.Reverse(e.Add)
		if err := s.Copy().Apply(e); err != want {
			t.Errorf("%q, new behind: %d, want %d", bounds, err, want)
		}
		if !ok {
			refuses(t, s, with(line(1, 11, from, to)), want)
			refuses(t, s, e, want)
		}
		// Neither level 0 asks for that, nor one level of another.
		applies(t, s.Copy(), with(line(0, 11, from, to), line(0, 12, from, to)))
		e = with(line(2, 11, from, to))
		e.Drop = numbers(1, 8)
		applies(t, s.Copy(), e)
		// And what goes is in nobody's way.
		e = with(line(1, 11, from, to))
		e.Drop = numbers(3, 6, 7)
		applies(t, s.Copy(), e)
	}
	refuses(t, base(t), with(line(2, 11, "j", "k")), api.ErrForm)
	refuses(t, base(t), with(line(2, 11, "o\xff", "q")), api.ErrForm)
	applies(t, base(t), with(line(2, 11, "p", "q")))
}

func TestLevel(t *testing.T) {
	s := base(t)
	for level, want := range []string{"5 4 2", "3 6 7", "8 1"} {
		if got := toldNumbers(s.Level(level)); got != want {
			t.Errorf("Level(%d) = %s, want %s", level, got, want)
		}
	}
	for _, n := range []int{-1, api.Levels, math.MinInt, math.MaxInt} {
		if l := s.Level(n); len(l) != 0 {
			t.Errorf("Level(%d) = %s", n, told(l))
		}
		if l := s.Over(n, nil, nil); len(l) != 0 {
			t.Errorf("Over(%d) = %s", n, told(l))
		}
	}
	// By Froms as bytes, a beginning first.
	s = edit.New()
	applies(t, s, edit.Edit{Next: 9, Add: lines(line(1, 1, "\xff", "\xff\xff"), line(1, 2, "ab", "b"), line(1, 4, "a", "aa"), line(1, 5, "b", "c"))})
	if got := toldNumbers(s.Level(1)); got != "4 2 5 1" {
		t.Error(got)
	}
}

func TestOver(t *testing.T) {
	s := base(t)
	for _, c := range []struct {
		level          int
		from, to, want string
	}{
		{0, "", "", "5 4 2"},
		{0, "a", "b", "4 2"},
		{0, "d", "", "4 2"},
		{0, "c\xff", "", "5 4 2"},
		{0, "", "c", "4 2"},
		{0, "", "c\x00", "5 4 2"},
		{0, "z", "", ""},
		{0, "y\xff\xff", "", "4 2"},
		{0, "", "a", ""},
		{0, "", "a\x00", "4 2"},
		{1, "", "", "3 6 7"},
		{1, "a", "z", "3 6 7"},
		{1, "b", "g", "3 6"},
		{1, "c", "f", ""},
		{1, "c", "f\x00", "6"},
		{1, "b\xff", "f", "3"},
		{1, "h", "m", ""},
		{1, "g", "n", "6 7"},
		{1, "q", "", ""},
		{1, "p", "", "7"},
		{1, "g", "g\x00", "6"},
		{1, "", "a", ""},
		{1, "", "b", "3"},
		{1, "", "\x00", ""},
		{1, "\x00", "", "3 6 7"},
		{1, "f", "h", "6"},
		{1, "e", "i", "6"},
		{1, "fa", "fb", "6"},
		{2, "", "k", "8"},
		{2, "k", "", "1"},
		{2, "j", "l", "8 1"},
		{2, "p", "", ""},
		// There is no key from from on and below to.
		{0, "b", "b", ""},
		{0, "x", "b", ""},
		{1, "g", "g", ""},
		{1, "g", "fa", ""},
		{1, "f", "f", ""},
		{1, "z", "a", ""},
		{2, "j", "b", ""},
		// Bounds that are longer than keys are.
		{1, "g" + strings.Repeat("g", 99), "", "6 7"},
		{1, "", "a" + strings.Repeat("\x00", 99), "3"},
	} {
		l := s.Over(c.level, []byte(c.from), []byte(c.to))
		if got := toldNumbers(l); got != c.want {
			t.Errorf("Over(%d, %q, %q) = %s, want %s", c.level, c.from, c.to, got, c.want)
		}
		for _, x := range l {
			if !strings.Contains(told(s.Level(c.level)), told(lines(x))) {
				t.Errorf("%s isn't in %s", told(lines(x)), told(s.Level(c.level)))
			}
		}
	}
}

func TestNumbers(t *testing.T) {
	s := base(t)
	if got := s.Numbers(); !slices.Equal(got, numbersOf(8, 1)) {
		t.Error(got)
	}
	applies(t, s, edit.Edit{Next: 1 << 50, Seq: 20, Log: 3, Drop: numbers(1, 5, 8), Add: lines(line(0, 1<<50-1, "a", "b"), line(2, 300, "a", "b"))})
	if got := s.Numbers(); !slices.Equal(got, numbers(2, 3, 4, 6, 7, 300, 1<<50-1)) {
		t.Error(got)
	}
}

func TestWholeMakesTheState(t *testing.T) {
	s := base(t)
	applies(t, s, edit.Edit{Next: 30, Seq: 31, Log: 32, Drop: numbers(2, 7), Add: lines(line(0, 29, "a", "b"))})
	again := edit.New()
	applies(t, again, s.Whole())
	if toldState(again) != toldState(s) {
		t.Errorf("%s, want %s", toldState(again), toldState(s))
	}
}

func TestCopyIsApart(t *testing.T) {
	for _, turned := range []bool{false, true} {
		s := base(t)
		c := s.Copy()
		was := toldState(s)
		if toldState(c) != was {
			t.Errorf("%s, want %s", toldState(c), was)
		}
		if turned {
			s, c = c, s
		}
		applies(t, s, edit.Edit{Next: 30, Seq: 31, Log: 32, Drop: numbers(2, 8, 3), Add: lines(line(0, 29, "a", "b"), line(1, 28, "a", "b"))})
		if toldState(c) != was {
			t.Errorf("%s, want %s", toldState(c), was)
		}
		applies(t, c, edit.Edit{Next: 10, Seq: 20, Log: 3, Drop: numbers(2, 4, 5)})
		if toldNumbers(s.Level(0)) != "29 5 4" || toldNumbers(c.Level(0)) != "" {
			t.Errorf("%s, %s", toldState(s), toldState(c))
		}
	}
	if got := toldState(edit.New().Copy()); got != toldState(edit.New()) {
		t.Error(got)
	}
}
