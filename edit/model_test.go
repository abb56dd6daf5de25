package edit_test

import (
	"cmp"
	"math/rand"
	"slices"
	"testing"

	"bartizan/api"
	"bartizan/edit"
)

// model is a state of which everything is asked anew, pair by pair.
type model struct {
	lines          []edit.Line
	next, seq, log uint64
}

func (m *model) apply(e edit.Edit) api.Errno {
	if e.Next < m.next || e.Seq < m.seq || e.Log < m.log {
		return api.ErrOrder
	}
	if e.Seq > api.MaxSeq || len(e.Drop) > 100 || len(e.Add) > 100 {
		return api.ErrArg
	}
	gone := map[uint64]bool{}
	for _, n := range e.Drop {
		if gone[n] || !slices.ContainsFunc(m.lines, func(l edit.Line) bool { return l.Number == n }) {
			return api.ErrNone
		}
		gone[n] = true
	}
	var rest []edit.Line
	for _, l := range m.lines {
		if !gone[l.Number] {
			rest = append(rest, l)
		}
	}
	rest = append(rest, e.Add...)
	if !sound(rest, e.Next) {
		return api.ErrForm
	}
	m.lines, m.next, m.seq, m.log = rest, e.Next, e.Seq, e.Log
	return api.OK
}

func sound(l []edit.Line, next uint64) bool {
	for i, a := range l {
		if a.Level < 0 || a.Level > 2 || len(a.From) < 1 || string(a.From) >= string(a.To) || len(a.From) > 65 || len(a.To) > 65 {
			return false
		}
		if a.Number < 1 || a.Number >= next || a.Last > api.MaxSeq {
			return false
		}
		for _, b := range l[i+1:] {
			if a.Number == b.Number {
				return false
			}
			if a.Level == b.Level && a.Level > 0 && string(a.To) > string(b.From) && string(b.To) > string(a.From) {
				return false
			}
		}
	}
	return true
}

func (m *model) level(n int) []edit.Line {
	var all []edit.Line
	for _, l := range m.lines {
		if l.Level == n {
			all = append(all, l)
		}
	}
	slices.SortFunc(all, func(a, b edit.Line) int {
		if n == 0 {
			return cmp.Compare(b.Number, a.Number)
		}
		return cmp.Compare(string(a.From), string(b.From))
	})
	return all
}

// over looks at each of the keys that there are.
func (m *model) over(level int, from, to string, keys []string) []edit.Line {
	var all []edit.Line
	for _, l := range m.level(level) {
		if slices.ContainsFunc(keys, func(k string) bool {
			return k >= from && (k < to || to == "") && k >= string(l.From) && k < string(l.To)
		}) {
			all = append(all, l)
		}
	}
	return all
}

func (m *model) whole() edit.Edit {
	e := edit.Edit{Next: m.next, Seq: m.seq, Log: m.log}
	for n := range 3 {
		e.Add = append(e.Add, m.level(n)...)
	}
	return e
}

// drawnEdit draws an edit that is mostly near to one that is taken.
func drawnEdit(r *rand.Rand, m *model, keys []string) edit.Edit {
	near := func(n uint64) uint64 {
		if r.Intn(40) == 0 {
			return n - min(n, 1)
		}
		return n + uint64(r.Intn(3))
	}
	e := edit.Edit{Next: near(m.next + 2), Seq: near(m.seq), Log: near(m.log)}
	for _, l := range m.lines {
		if r.Intn(4) == 0 {
			e.Drop = append(e.Drop, l.Number)
		}
	}
	if r.Intn(20) == 0 {
		e.Drop = append(e.Drop, uint64(r.Intn(int(m.next)+3)))
	}
	for range r.Intn(4) {
		e.Add = append(e.Add, edit.Line{
			Level:  r.Intn(3) + r.Intn(20)/19,
			Number: m.next + uint64(r.Intn(5)) - uint64(r.Intn(8)/7),
			From:   []byte(keys[r.Intn(len(keys))]),
			To:     []byte(keys[r.Intn(len(keys))]),
			Last:   uint64(r.Intn(9)),
		})
		if l := &e.Add[len(e.Add)-1]; string(l.From) > string(l.To) && r.Intn(10) > 0 {
			l.From, l.To = l.To, l.From
		}
	}
	return e
}

func TestLongRuns(t *testing.T) {
	var keys []string
	for c := byte('a'); c < 'k'; c++ {
		keys = append(keys, string(c), string(c)+"\x00", string(c)+"m")
	}
	done := map[api.Errno]int{}
	for seed := range int64(100) {
		r := rand.New(rand.NewSource(seed))
		s, m := edit.New(), &model{next: 1}
		var taken []string
		for range 60 {
			e := drawnEdit(r, m, keys)
			was := toldEdit(e)
			want := m.apply(e)
			if err := s.Apply(e); err != want || toldEdit(e) != was {
				t.Fatalf("seed %d: Apply(%s) = %d, want %d", seed, was, err, want)
			}
			done[want]++
			if want == api.OK {
				taken = append(taken, bytesOf(t, e))
			}
			holdsAgainst(t, s, m, keys, r)
		}
		p, _ := reelOf(t, taken...)
		replays(t, p, toldState(s), len(taken))
	}
	// Otherwise the runs would tell little.
	for _, err := range []api.Errno{api.OK, api.ErrOrder, api.ErrNone, api.ErrForm} {
		if done[err] < 100 {
			t.Errorf("%d was answered %d times", err, done[err])
		}
	}
}

// holdsAgainst fails unless the state tells what the model does.
func holdsAgainst(t *testing.T, s *edit.State, m *model, keys []string, r *rand.Rand) {
	t.Helper()
	if got, want := toldEdit(s.Whole()), toldEdit(m.whole()); got != want {
		t.Fatalf("Whole() = %s, want %s", got, want)
	}
	var all []uint64
	for _, l := range m.lines {
		all = append(all, l.Number)
	}
	slices.Sort(all)
	if got := s.Numbers(); !slices.Equal(got, all) {
		t.Fatalf("Numbers() = %d, want %d", got, all)
	}
	again := edit.New()
	applies(t, again, s.Whole())
	if got, want := toldState(s.Copy()), toldState(again); got != want {
		t.Fatalf("Copy() = %s, Whole makes %s", got, want)
	}
	for n := range 3 {
		if got, want := told(s.Level(n)), told(m.level(n)); got != want {
			t.Fatalf("Level(%d) = %s, want %s", n, got, want)
		}
		from, to := keys[r.Intn(len(keys))], keys[r.Intn(len(keys))]
		for _, c := range [][2]string{{from, to}, {from, ""}, {"", to}} {
			got := toldNumbers(s.Over(n, []byte(c[0]), []byte(c[1])))
			if want := toldNumbers(m.over(n, c[0], c[1], keys)); got != want {
				t.Fatalf("Over(%d, %q, %q) = %s, want %s", n, c[0], c[1], got, want)
			}
		}
	}
}
