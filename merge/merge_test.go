package merge_test

import (
	"bytes"
	"math"
	"slices"
	"strconv"
	"strings"
	"testing"

	"bartizan/api"
	"bartizan/ikey"
	"bartizan/merge"
)

// at makes a version.
func at(user string, seq uint64, kind byte) api.Key {
	return api.Key{User: []byte(user), Seq: seq, Kind: kind}
}

func put(user string, seq uint64, value string) api.Entry {
	return api.Entry{Key: at(user, seq, api.Put), Value: []byte(value)}
}

func del(user string, seq uint64) api.Entry {
	return api.Entry{Key: at(user, seq, api.Delete)}
}

// list makes a source.
func list(l ...api.Entry) []api.Entry {
	return l
}

// one writes an entry as a text.
func one(e api.Entry) string {
	k := e.Key
	return string(k.User) + " at " + strconv.FormatUint(k.Seq, 10) + " " + strconv.Itoa(int(k.Kind)) + " = " + string(e.Value)
}

func told(l []api.Entry) string {
	var all []string
	for _, e := range l {
		all = append(all, one(e))
	}
	return strings.Join(all, "; ")
}

func open(t *testing.T, sources ...[]api.Entry) *merge.Cursor {
	t.Helper()
	c, err := merge.New(sources...)
	if err != api.OK || c == nil {
		t.Fatalf("New(%v) = %v, %d", sources, c, err)
	}
	return c
}

// stands fails unless the cursor stands there.
func stands(t *testing.T, c *merge.Cursor, want string) {
	t.Helper()
	if e, ok := c.Here(); !ok || one(e) != want {
		t.Errorf("stands at %s, %t, want %s", one(e), ok, want)
	}
}

// lost fails unless the cursor stands nowhere.
func lost(t *testing.T, c *merge.Cursor) {
	t.Helper()
	e, ok := c.Here()
	if ok || e.Key.User != nil || e.Key.Seq != 0 || e.Key.Kind != 0 || e.Value != nil {
		t.Errorf("stands at %s, %t, want nowhere", one(e), ok)
	}
}

// example is the chapter's.
func example(t *testing.T) *merge.Cursor {
	t.Helper()
	return open(t, list(put("a", 1, "p"), put("c", 1, "q")), list(put("b", 1, "r"), put("c", 1, "s")))
}

const exampleTold = "a at 1 2 = p; b at 1 2 = r; c at 1 2 = q"

func TestTheExample(t *testing.T) {
	c := example(t)
	if got := told(c.All()); got != exampleTold {
		t.Errorf("All() = %s", got)
	}
	if !c.From(at("b", 1, api.Put)) {
		t.Error("From(b) is false")
	}
	stands(t, c, "b at 1 2 = r")
	if !c.Prev() {
		t.Error("Prev from b is false")
	}
	stands(t, c, "a at 1 2 = p")
	if c.Prev() {
		t.Error("Prev from a is true")
	}
	lost(t, c)
}

func TestANewOneStandsNowhere(t *testing.T) {
	c := example(t)
	lost(t, c)
	if c.Next() || c.Prev() {
		t.Error("it went on from nowhere")
	}
	lost(t, c)
}

func TestFirstAndLast(t *testing.T) {
	c := example(t)
	for range 2 {
		if !c.First() {
			t.Error("First is false")
		}
		stands(t, c, "a at 1 2 = p")
		if !c.Last() {
			t.Error("Last is false")
		}
		stands(t, c, "c at 1 2 = q")
	}
}

func TestThroughAllAndBack(t *testing.T) {
	c := example(t)
	var there, back []string
	for ok := c.First(); ok; ok = c.Next() {
		e, _ := c.Here()
		there = append(there, one(e))
	}
	lost(t, c)
	if c.Prev() || c.Next() {
		t.Error("it went on from behind the last")
	}
	for ok := c.Last(); ok; ok = c.Prev() {
		e, _ := c.Here()
		back = append(back, one(e))
	}
	lost(t, c)
	if c.Next() || c.Prev() {
		t.Error("it went on from ahead of the first")
	}
	slices.Reverse(back)
	if strings.Join(there, "; ") != exampleTold || strings.Join(back, "; ") != exampleTold {
		t.Errorf("there %v, back %v", there, back)
	}
}

func TestFromAndBefore(t *testing.T) {
	c := open(t, list(put("b", 7, "p"), del("b", 3)), list(put("b", 5, "q"), put("d", 5, "r"), del("d", 5)))
	for _, x := range []struct {
		k            api.Key
		from, before string
	}{
		{at("", 0, 0), "b at 7 2 = p", ""},
		{at("a", 9, api.Put), "b at 7 2 = p", ""},
		{at("b", math.MaxUint64, 255), "b at 7 2 = p", ""},
		{at("b", 7, api.Put), "b at 7 2 = p", ""},
		{at("b", 7, api.Delete), "b at 5 2 = q", "b at 7 2 = p"},
		{at("b", 6, api.Put), "b at 5 2 = q", "b at 7 2 = p"},
		{at("b", 5, api.Put), "b at 5 2 = q", "b at 7 2 = p"},
		{at("b", 3, api.Put), "b at 3 1 = ", "b at 5 2 = q"},
		{at("b", 3, api.Delete), "b at 3 1 = ", "b at 5 2 = q"},
		{at("b", 3, 0), "d at 5 2 = r", "b at 3 1 = "},
		{at("b\x00", 9, api.Put), "d at 5 2 = r", "b at 3 1 = "},
		{at("c", 0, api.Delete), "d at 5 2 = r", "b at 3 1 = "},
		{at("d", 5, api.Put), "d at 5 2 = r", "b at 3 1 = "},
		{at("d", 5, api.Delete), "d at 5 1 = ", "d at 5 2 = r"},
		{at("d", 4, api.Put), "", "d at 5 1 = "},
		{at("e", 0, 0), "", "d at 5 1 = "},
		{at(strings.Repeat("x", 1000), 0, 0), "", "d at 5 1 = "},
	} {
		for _, start := range []func() bool{c.First, c.Last} {
			start()
			if got := c.From(x.k); got != (x.from != "") {
				t.Errorf("From(%v) = %t", x.k, got)
			}
			there(t, c, x.from)
			start()
			if got := c.Before(x.k); got != (x.before != "") {
				t.Errorf("Before(%v) = %t", x.k, got)
			}
			there(t, c, x.before)
		}
	}
}

// there fails unless the cursor stands there, or nowhere, if want is empty.
func there(t *testing.T, c *merge.Cursor, want string) {
	t.Helper()
	if want == "" {
		lost(t, c)
		return
	}
	stands(t, c, want)
}

func TestTheFirstSourceThatHasAVersion(t *testing.T) {
	a, b, d := list(put("k", 2, "1")), list(put("k", 2, "2"), put("k", 1, "2")), list(put("j", 1, "3"), put("k", 2, "3"), put("k", 1, "3"))
	for _, x := range []struct {
		sources [][]api.Entry
		want    string
	}{
		{[][]api.Entry{a, b, d}, "j at 1 2 = 3; k at 2 2 = 1; k at 1 2 = 2"},
		{[][]api.Entry{b, a, d}, "j at 1 2 = 3; k at 2 2 = 2; k at 1 2 = 2"},
		{[][]api.Entry{d, b, a}, "j at 1 2 = 3; k at 2 2 = 3; k at 1 2 = 3"},
		{[][]api.Entry{a, a, a}, "k at 2 2 = 1"},
		{[][]api.Entry{nil, {}, b, nil}, "k at 2 2 = 2; k at 1 2 = 2"},
	} {
		if got := told(open(t, x.sources...).All()); got != x.want {
			t.Errorf("All() = %s, want %s", got, x.want)
		}
	}
}

func TestVersionsThatDifferInOneThingAreTwo(t *testing.T) {
	c := open(t, list(put("k", 2, "1")), list(del("k", 2)), list(put("k", 3, "3")), list(put("k\x00", 2, "4")))
	if got := told(c.All()); got != "k at 3 2 = 3; k at 2 2 = 1; k at 2 1 = ; k\x00 at 2 2 = 4" {
		t.Errorf("All() = %q", got)
	}
}

func TestManySources(t *testing.T) {
	// More than a sort takes at a time by another way.
	var sources [][]api.Entry
	for i := range 100 {
		sources = append(sources, list(put("k", 5, strconv.Itoa(i)), put("k", uint64(4-i%4), strconv.Itoa(i))))
	}
	if got := told(open(t, sources...).All()); got != "k at 5 2 = 0; k at 4 2 = 0; k at 3 2 = 1; k at 2 2 = 2; k at 1 2 = 3" {
		t.Errorf("All() = %s", got)
	}
}

func TestOfNothing(t *testing.T) {
	for _, sources := range [][][]api.Entry{nil, {}, {nil}, {nil, {}, nil}} {
		c := open(t, sources...)
		if len(c.All()) != 0 {
			t.Errorf("All() = %v", c.All())
		}
		for i, move := range []func() bool{c.First, c.Last, c.Next, c.Prev} {
			if move() {
				t.Errorf("move %d is true", i)
			}
			lost(t, c)
		}
		if c.From(api.Key{}) || c.Before(at("z", 0, 0)) {
			t.Error("From or Before is true")
		}
		lost(t, c)
	}
}

func TestOfANilCursor(t *testing.T) {
	var c *merge.Cursor
	for i, move := range []func() bool{c.First, c.Last, c.Next, c.Prev} {
		if move() {
			t.Errorf("move %d is true", i)
		}
	}
	if c.From(api.Key{}) || c.Before(at("z", 0, 0)) || len(c.All()) != 0 {
		t.Error("a nil cursor has something")
	}
	lost(t, c)
}

func TestSourcesThatDoNotRise(t *testing.T) {
	right := list(put("a", 1, ""), put("b", 1, ""))
	for _, l := range [][]api.Entry{
		list(put("b", 1, ""), put("a", 1, "")),
		list(put("a", 1, ""), put("a", 1, "")),
		list(put("a", 1, "x"), put("a", 1, "y")),
		list(del("a", 1), put("a", 1, "")),
		list(put("a", 1, ""), put("a", 2, "")),
		list(put("a", 1, ""), put("b", 1, ""), put("b", 1, "")),
		list(put("a", 1, ""), put("c", 1, ""), put("b", 1, ""), put("d", 1, "")),
		list(put("a\x00", 1, ""), put("a", 1, "")),
		list(put("\x80", 1, ""), put("\x7f", 1, "")),
	} {
		for _, sources := range [][][]api.Entry{{l}, {l, right}, {right, l}, {nil, right, l, right}} {
			if c, err := merge.New(sources...); c != nil || err != api.ErrOrder {
				t.Errorf("New(%v) = %v, %d", sources, c, err)
			}
		}
	}
}

func TestAnyEntriesThatRise(t *testing.T) {
	// The order alone is asked for: a version that isn't right has its place, too.
	l := list(api.Entry{Key: at("", 3, 0)}, api.Entry{Key: at("a", math.MaxUint64, 255)}, put(strings.Repeat("b", 100), 0, strings.Repeat("v", 1000)))
	if got := open(t, l).All(); told(got) != told(l) {
		t.Errorf("All() = %s", told(got))
	}
}

func TestAllLeavesTheCursorWhereItStands(t *testing.T) {
	c := example(t)
	c.All()
	lost(t, c)
	c.First()
	c.Next()
	c.All()
	stands(t, c, "b at 1 2 = r")
	if !c.Next() {
		t.Error("Next is false")
	}
	stands(t, c, "c at 1 2 = q")
}

func TestTwoCursorsStandApart(t *testing.T) {
	l := list(put("a", 1, ""), put("b", 1, ""))
	c, d := open(t, l), open(t, l)
	c.First()
	d.Last()
	stands(t, c, "a at 1 2 = ")
	stands(t, d, "b at 1 2 = ")
}

// roomy copies p in front of spare room whose bytes are known.
func roomy(p string) []byte {
	q := bytes.Repeat([]byte{0xa5}, len(p)+16)
	copy(q, p)
	return q[:len(p)]
}

// untouched tells whether q, which roomy made of p, is as it was.
func untouched(q []byte, p string) bool {
	return bytes.Equal(q[:len(p)+16], append([]byte(p), bytes.Repeat([]byte{0xa5}, 16)...))
}

// spoil writes over bytes and their spare room.
func spoil(p []byte) {
	p = p[:cap(p)]
	for i := range p {
		p[i] = 0x5a
	}
}

func spoilEntries(l []api.Entry) {
	for _, e := range l {
		spoil(e.Key.User)
		spoil(e.Value)
	}
	l = l[:cap(l)]
	for i := range l {
		l[i] = put("spoilt", 1, "spoilt")
	}
}

func roomyPut(user, value string) api.Entry {
	return api.Entry{Key: api.Key{User: roomy(user), Seq: 1, Kind: api.Put}, Value: roomy(value)}
}

func TestArgumentsAreNeitherChangedNorKept(t *testing.T) {
	spare := put("spare", 1, "spare")
	first := append(make([]api.Entry, 0, 8), roomyPut("b", "x"), roomyPut("d", "y"))
	second := append(make([]api.Entry, 0, 8), roomyPut("a", "p"), roomyPut("b", "q"), roomyPut("c", "r"))
	first[:3][2], second[:4][3] = spare, spare
	sources := append(make([][]api.Entry, 0, 4), first, second)
	c := open(t, sources...)
	k := api.Key{User: roomy("c"), Seq: 1, Kind: api.Put}
	if !c.Before(k) || !c.From(k) || !untouched(k.User, "c") {
		t.Error("From or Before changed its key")
	}
	if told(first[:3]) != "b at 1 2 = x; d at 1 2 = y; spare at 1 2 = spare" || told(second[:4]) != "a at 1 2 = p; b at 1 2 = q; c at 1 2 = r; spare at 1 2 = spare" {
		t.Errorf("New changed its sources: %s, %s", told(first[:3]), told(second[:4]))
	}
	for _, e := range slices.Concat(first, second) {
		if !untouched(e.Key.User, string(e.Key.User)) || !untouched(e.Value, string(e.Value)) {
			t.Errorf("the room of %s was written to", one(e))
		}
	}
	if len(sources) != 2 || sources[:3][2] != nil {
		t.Error("New changed the list of its sources")
	}
	spoil(k.User)
	spoilEntries(first)
	spoilEntries(second)
	stands(t, c, "c at 1 2 = r")
	if got := told(c.All()); got != "a at 1 2 = p; b at 1 2 = x; c at 1 2 = r; d at 1 2 = y" {
		t.Errorf("All() = %s", got)
	}
}

func TestAnswersAreNewMemory(t *testing.T) {
	c := example(t)
	c.First()
	one, two := c.All(), c.All()
	here, _ := c.Here()
	for i, e := range one {
		spoil(e.Key.User)
		spoil(e.Value)
		if told(one[i+1:]) != told(two[i+1:]) {
			t.Error("two entries of one answer share memory")
		}
	}
	spoilEntries(one)
	if string(here.Key.User) != "a" || string(here.Value) != "p" || told(two) != exampleTold {
		t.Error("two answers share memory")
	}
	spoil(here.Key.User)
	if string(here.Value) != "p" {
		t.Error("a User and a Value share memory")
	}
	spoil(here.Value)
	stands(t, c, "a at 1 2 = p")
	if got := told(c.All()); got != exampleTold {
		t.Errorf("All() = %s", got)
	}
}

// roller answers numbers below what it is asked for, the same in each run.
func roller() func(int) int {
	state := uint64(1)
	return func(n int) int {
		state = state*6364136223846793005 + 1442695040888963407
		return int((state >> 33) % uint64(n))
	}
}

// model is a plain cursor: all entries, and where it stands.
type model struct {
	all []api.Entry
	at  int
}

func (m *model) move(at int) bool {
	if at < 0 || at >= len(m.all) {
		m.at = -1
		return false
	}
	m.at = at
	return true
}

func (m *model) ahead(k api.Key) int {
	n := 0
	for _, e := range m.all {
		if ikey.Compare(e.Key, k) < 0 {
			n++
		}
	}
	return n
}

// add puts an entry in, if its version isn't there, at its place.
func (m *model) add(e api.Entry) {
	at := m.ahead(e.Key)
	if at < len(m.all) && ikey.Compare(m.all[at].Key, e.Key) == 0 {
		return
	}
	m.all = slices.Insert(m.all, at, e)
}

func TestLongRuns(t *testing.T) {
	roll := roller()
	key := func() api.Key {
		return at(string("abcd"[roll(4):][:1])+strings.Repeat("a", roll(2)), uint64(roll(4)), byte(1+roll(2)))
	}
	for range 300 {
		var sources [][]api.Entry
		m := &model{at: -1}
		for i := range roll(5) {
			own := &model{}
			for range roll(12) {
				own.add(api.Entry{Key: key(), Value: []byte(strconv.Itoa(i))})
			}
			sources = append(sources, own.all)
			for _, e := range own.all {
				m.add(e)
			}
		}
		c := open(t, sources...)
		if told(c.All()) != told(m.all) {
			t.Fatalf("All() = %s, want %s", told(c.All()), told(m.all))
		}
		for range 60 {
			walk(t, c, m, roll(6), key())
		}
	}
}

// walk moves both by one step, and holds them against each other.
func walk(t *testing.T, c *merge.Cursor, m *model, step int, k api.Key) {
	t.Helper()
	var got, want bool
	switch step {
	case 0:
		got, want = c.First(), m.move(0)
	case 1:
		got, want = c.Last(), m.move(len(m.all)-1)
	case 2:
		got, want = c.From(k), m.move(m.ahead(k))
	case 3:
		got, want = c.Before(k), m.move(m.ahead(k)-1)
	case 4:
		got, want = c.Next(), m.at >= 0 && m.move(m.at+1)
	case 5:
		got, want = c.Prev(), m.at >= 0 && m.move(m.at-1)
	}
	if got != want {
		t.Fatalf("step %d = %t, want %t", step, got, want)
	}
	if m.at < 0 {
		lost(t, c)
		return
	}
	stands(t, c, one(m.all[m.at]))
}
