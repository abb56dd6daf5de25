package skip_test

import (
	"bytes"
	"math"
	"slices"
	"strings"
	"testing"

	"bartizan/api"
	"bartizan/ikey"
	"bartizan/skip"
)

// version makes one of Kind Put.
func version(user string, seq uint64) api.Key {
	return api.Key{User: []byte(user), Seq: seq, Kind: api.Put}
}

// put makes an entry of Kind Put.
func put(user string, seq uint64, value string) api.Entry {
	return api.Entry{Key: version(user, seq), Value: []byte(value)}
}

// same tells whether two versions have the same fields.
func same(a, b api.Key) bool {
	return bytes.Equal(a.User, b.User) && a.Seq == b.Seq && a.Kind == b.Kind
}

// alike tells whether two entries have the same fields.
func alike(a, b api.Entry) bool {
	return same(a.Key, b.Key) && bytes.Equal(a.Value, b.Value)
}

// none tells whether e is the zero value.
func none(e api.Entry) bool {
	return alike(e, api.Entry{})
}

// text makes one of so many bytes, each unlike its neighbours.
func text(size int) string {
	p := make([]byte, size)
	for i := range p {
		p[i] = byte(i*7 + 1)
	}
	return string(p)
}

// roomy copies p in front of spare room whose bytes are known.
func roomy(p string) []byte {
	q := bytes.Repeat([]byte{0xa5}, len(p)+16)
	copy(q, p)
	return q[:len(p)]
}

// untouched tells whether q, which roomy made of p, is as it was.
func untouched(q []byte, p string) bool {
	return bytes.Equal(q[:len(p)+16], append([]byte(p), bytes.Repeat([]byte{0xa5}, 16)...))
}

// spoil writes over bytes and their spare room.
func spoil(p []byte) {
	p = p[:cap(p)]
	for i := range p {
		p[i] = 0x5a
	}
}

// made holds a list of the entries, with heights 1, 2 .. MaxHeight, 1 ..
func made(t *testing.T, l ...api.Entry) *skip.List {
	t.Helper()
	list := skip.New()
	for i, e := range l {
		if err := list.Insert(e, 1+i%api.MaxHeight); err != api.OK {
			t.Fatalf("Insert(%v) = %d", e, err)
		}
	}
	return list
}

// holds fails unless the list has just these entries, in that order.
func holds(t *testing.T, list *skip.List, want ...api.Entry) {
	t.Helper()
	if l := list.All(); !slices.EqualFunc(l, want, alike) {
		t.Errorf("All = %v, want %v", l, want)
	}
	if n := list.Len(); n != len(want) {
		t.Errorf("Len = %d, want %d", n, len(want))
	}
	size := 0
	for _, e := range want {
		size += 16 + len(e.Key.User) + len(e.Value)
	}
	if n := list.Size(); n != size {
		t.Errorf("Size = %d, want %d", n, size)
	}
}

func TestOfNothing(t *testing.T) {
	list := skip.New()
	holds(t, list)
	for h := -1; h <= api.MaxHeight+1; h++ {
		if r := list.Row(h); len(r) != 0 {
			t.Errorf("Row(%d) = %v", h, r)
		}
	}
	for _, k := range []api.Key{{}, version("a", 1), version("\xff", 0)} {
		if e, ok := list.From(k); ok || !none(e) {
			t.Errorf("From(%v) = %v, %t", k, e, ok)
		}
		if e, ok := list.Before(k); ok || !none(e) {
			t.Errorf("Before(%v) = %v, %t", k, e, ok)
		}
	}
}

func TestTheExample(t *testing.T) {
	list := skip.New()
	a, b := put("a", 1, ""), put("b", 1, "")
	if err := list.Insert(b, 2); err != api.OK {
		t.Fatal(err)
	}
	if err := list.Insert(a, 1); err != api.OK {
		t.Fatal(err)
	}
	holds(t, list, a, b)
	if r := list.Row(2); len(r) != 1 || !same(r[0], b.Key) {
		t.Errorf("Row(2) = %v", r)
	}
	if e, ok := list.From(version("a", 0)); !ok || !alike(e, b) {
		t.Errorf("From(a at 0) = %v, %t", e, ok)
	}
	if e, ok := list.Before(version("b", 5)); !ok || !alike(e, a) {
		t.Errorf("Before(b at 5) = %v, %t", e, ok)
	}
}

func TestOfANilList(t *testing.T) {
	var list *skip.List
	for _, h := range []int{0, 1, api.MaxHeight + 1} {
		for _, e := range []api.Entry{{}, put("a", 1, "x"), put("", 1, text(600))} {
			if err := list.Insert(e, h); err != api.ErrNone {
				t.Errorf("Insert(%v, %d) = %d", e, h, err)
			}
		}
		if r := list.Row(h); len(r) != 0 {
			t.Errorf("Row(%d) = %v", h, r)
		}
	}
	if e, ok := list.From(version("a", 1)); ok || !none(e) {
		t.Errorf("From = %v, %t", e, ok)
	}
	if e, ok := list.Before(version("a", 1)); ok || !none(e) {
		t.Errorf("Before = %v, %t", e, ok)
	}
	holds(t, list)
}

func TestInsertOfWrong(t *testing.T) {
	long := text(api.MaxValue + 1)
	for _, c := range []struct {
		e      api.Entry
		height int
		want   api.Errno
	}{
		{put("", 1, ""), 1, api.ErrShort},
		{put(text(api.MaxKey+1), 1, ""), 1, api.ErrLong},
		{put("a", api.MaxSeq+1, ""), 1, api.ErrArg},
		{put("a", math.MaxUint64, ""), 1, api.ErrArg},
		{api.Entry{Key: api.Key{User: []byte("a"), Seq: 1}}, 1, api.ErrArg},
		{api.Entry{Key: api.Key{User: []byte("a"), Seq: 1, Kind: api.Range}}, 1, api.ErrArg},
		{api.Entry{}, 1, api.ErrArg},
		{put("a", 1, ""), 0, api.ErrArg},
		{put("a", 1, ""), -1, api.ErrArg},
		{put("a", 1, ""), api.MaxHeight + 1, api.ErrArg},
		{put("a", 1, ""), math.MaxInt, api.ErrArg},
		{put("a", 1, ""), math.MinInt, api.ErrArg},
		{put("a", 1, long), 1, api.ErrLong},
		{put("a", 1, long), api.MaxHeight, api.ErrLong},
		{put("m", 5, "else"), 1, api.ErrExists},
		{put("m", 5, "x"), 3, api.ErrExists},
		// The Key's error goes first, whatever its number; then height, Value, and what is there.
		{put("", 1, long), 0, api.ErrShort},
		{put(text(api.MaxKey+1), 1, long), 0, api.ErrLong},
		{put("a", 1, long), 0, api.ErrArg},
		{put("m", 5, long), 0, api.ErrArg},
		{put("m", 5, "x"), api.MaxHeight + 1, api.ErrArg},
		{put("m", 5, long), 1, api.ErrLong},
	} {
		list := made(t, put("m", 5, "x"))
		if err := list.Insert(c.e, c.height); err != c.want {
			t.Errorf("Insert(%v, %d) = %d, want %d", c.e, c.height, err, c.want)
		}
		holds(t, list, put("m", 5, "x"))
		if r := list.Row(2); len(r) != 0 {
			t.Errorf("a refused entry is in row 2: %v", r)
		}
	}
}

func TestInsertAtTheEdges(t *testing.T) {
	l := []api.Entry{
		put(text(api.MaxKey), api.MaxSeq, text(api.MaxValue)),
		put("a", 0, ""),
		{Key: api.Key{User: []byte("a"), Seq: 0, Kind: api.Delete}},
		{Key: api.Key{User: []byte("b"), Seq: 7, Kind: api.Delete}, Value: []byte(text(api.MaxValue))},
		put("\x00", 1, "\x00"),
	}
	list := made(t, l...)
	holds(t, list, l[4], l[0], l[1], l[2], l[3])
}

// Versions differ by User, by Seq or by Kind; and they stand in layer 3's order.
func TestOrder(t *testing.T) {
	gone := func(user string, seq uint64) api.Entry {
		return api.Entry{Key: api.Key{User: []byte(user), Seq: seq, Kind: api.Delete}}
	}
	order := []api.Entry{
		put("A", 1, "1"), put("a", 300, "2"), put("a", 256, "3"), put("a", 5, "4"), gone("a", 5), put("a", 4, "5"),
		gone("a", 0), put("a\x00", 9, "6"), put("ab", 1, "7"), put("b", 8, "8"), put("\x80", 1, "9"), put("\xff", 1, "10"),
	}
	// Of 12 entries, each of these steps meets every one once, in another order.
	for _, step := range []int{1, 5, 7, 11} {
		list := skip.New()
		for i := range order {
			if err := list.Insert(order[i*step%len(order)], 1+i%api.MaxHeight); err != api.OK {
				t.Fatalf("Insert(%v) = %d", order[i*step%len(order)], err)
			}
		}
		holds(t, list, order...)
	}
}

func TestRows(t *testing.T) {
	list := skip.New()
	for i := range 3 * api.MaxHeight {
		if err := list.Insert(put(string(rune('a'+i)), 1, ""), 1+i*5%api.MaxHeight); err != api.OK {
			t.Fatal(err)
		}
	}
	for h := 1; h <= api.MaxHeight; h++ {
		var want []api.Key
		for i := range 3 * api.MaxHeight {
			if 1+i*5%api.MaxHeight >= h {
				want = append(want, version(string(rune('a'+i)), 1))
			}
		}
		if r := list.Row(h); !slices.EqualFunc(r, want, same) {
			t.Errorf("Row(%d) = %v, want %v", h, r, want)
		}
	}
	for _, h := range []int{math.MinInt, -1, 0, api.MaxHeight + 1, api.MaxHeight + 2, math.MaxInt} {
		if r := list.Row(h); len(r) != 0 {
			t.Errorf("Row(%d) = %v", h, r)
		}
	}
}

func TestFromAndBefore(t *testing.T) {
	list := made(t, put("b", 5, "1"), put("b", 3, "2"), put("d", 4, "3"))
	long := strings.Repeat("c", 1000)
	for _, c := range []struct {
		k            api.Key
		from, before string
	}{
		{api.Key{}, "1", ""},
		{version("", math.MaxUint64), "1", ""},
		{version("a", 1), "1", ""},
		{version("b", 6), "1", ""},
		{version("b", math.MaxUint64), "1", ""},
		{api.Key{User: []byte("b"), Seq: 5, Kind: 255}, "1", ""},
		{version("b", 5), "1", ""},
		{api.Key{User: []byte("b"), Seq: 5, Kind: api.Delete}, "2", "1"},
		{version("b", 4), "2", "1"},
		{version("b", 3), "2", "1"},
		{api.Key{User: []byte("b"), Seq: 3}, "3", "2"},
		{version("b", 0), "3", "2"},
		{version("c", 9), "3", "2"},
		{version(long, 9), "3", "2"},
		{version("d", 5), "3", "2"},
		{version("d", 4), "3", "2"},
		{version("d", 3), "", "3"},
		{version("e", 4), "", "3"},
		{api.Key{User: []byte("\xff\xff"), Seq: math.MaxUint64, Kind: 255}, "", "3"},
	} {
		e, ok := list.From(c.k)
		if string(e.Value) != c.from || ok != (c.from != "") || !ok && !none(e) {
			t.Errorf("From(%v) = %v, %t, want %q", c.k, e, ok, c.from)
		}
		e, ok = list.Before(c.k)
		if string(e.Value) != c.before || ok != (c.before != "") || !ok && !none(e) {
			t.Errorf("Before(%v) = %v, %t, want %q", c.k, e, ok, c.before)
		}
	}
}

func TestSize(t *testing.T) {
	list := skip.New()
	for _, c := range []struct {
		e    api.Entry
		want int
	}{
		{put("a", 1, ""), 17},
		{put("abc", 1, "xy"), 17 + 21},
		{api.Entry{Key: api.Key{User: []byte("a"), Seq: 2, Kind: api.Delete}}, 17 + 21 + 17},
		{put(text(api.MaxKey), 1, text(api.MaxValue)), 17 + 21 + 17 + 16 + 64 + 512},
	} {
		if err := list.Insert(c.e, 1); err != api.OK || list.Size() != c.want {
			t.Errorf("Size = %d, want %d (%d)", list.Size(), c.want, err)
		}
	}
}

func TestInsertMemory(t *testing.T) {
	list := skip.New()
	user, value := roomy("ab"), roomy("xyz")
	if err := list.Insert(api.Entry{Key: api.Key{User: user, Seq: 1, Kind: api.Put}, Value: value}, 3); err != api.OK {
		t.Fatal(err)
	}
	if !untouched(user, "ab") || !untouched(value, "xyz") {
		t.Errorf("Insert changed its argument: % x, % x", user, value)
	}
	spoil(user)
	spoil(value)
	holds(t, list, put("ab", 1, "xyz"))
}

func TestAnswersMemory(t *testing.T) {
	want := []api.Entry{put("a", 1, "x"), put("b", 1, "yy")}
	list := made(t, want...)
	k := api.Key{User: roomy("b"), Seq: 9, Kind: api.Put}
	for range 2 {
		from, _ := list.From(k)
		before, _ := list.Before(k)
		if !alike(from, want[1]) || !alike(before, want[0]) || !untouched(k.User, "b") {
			t.Fatalf("From = %v, Before = %v", from, before)
		}
		for _, e := range append(list.All(), from, before) {
			spoil(e.Key.User)
			spoil(e.Value)
		}
		for _, r := range list.Row(1) {
			spoil(r.User)
		}
		holds(t, list, want...)
	}
}

func TestListsOfOneAnswerAreApart(t *testing.T) {
	list := made(t, put("a", 1, "x"), put("b", 1, "yy"))
	l := list.All()
	spoil(l[0].Key.User)
	if string(l[0].Value) != "x" || !alike(l[1], put("b", 1, "yy")) {
		t.Errorf("All: %v", l)
	}
	spoil(l[0].Value)
	if !alike(l[1], put("b", 1, "yy")) {
		t.Errorf("All: %v", l)
	}
	first, second := list.All(), list.All()
	_ = append(first[:0], api.Entry{}, api.Entry{})
	if !alike(second[0], put("a", 1, "x")) {
		t.Errorf("two answers share a list: %v", second)
	}
	e, _ := list.From(version("a", 1))
	spoil(e.Key.User)
	if string(e.Value) != "x" {
		t.Errorf("From: %v", e)
	}
	r := list.Row(1)
	spoil(r[0].User)
	if !same(r[1], version("b", 1)) {
		t.Errorf("Row: %v", r)
	}
}

// model is a list in the plainest way: what came, with heights, sorted when asked.
type model struct {
	entries []api.Entry
	heights map[string]int
}

func name(k api.Key) string {
	p, _ := ikey.Bytes(k)
	return string(p)
}

func (m *model) insert(e api.Entry, height int) api.Errno {
	if _, ok := m.heights[name(e.Key)]; ok {
		return api.ErrExists
	}
	m.heights[name(e.Key)] = height
	m.entries = append(m.entries, e)
	slices.SortFunc(m.entries, func(a, b api.Entry) int { return ikey.Compare(a.Key, b.Key) })
	return api.OK
}

func (m *model) agrees(t *testing.T, list *skip.List, k api.Key) {
	t.Helper()
	holds(t, list, m.entries...)
	for h := 1; h <= api.MaxHeight; h++ {
		var want []api.Key
		for _, e := range m.entries {
			if m.heights[name(e.Key)] >= h {
				want = append(want, e.Key)
			}
		}
		if r := list.Row(h); !slices.EqualFunc(r, want, same) {
			t.Fatalf("Row(%d) = %v, want %v", h, r, want)
		}
	}
	at := slices.IndexFunc(m.entries, func(e api.Entry) bool { return ikey.Compare(e.Key, k) >= 0 })
	if at < 0 {
		at = len(m.entries)
	}
	if e, ok := list.From(k); ok != (at < len(m.entries)) || ok && !alike(e, m.entries[at]) {
		t.Fatalf("From(%v) = %v, %t", k, e, ok)
	}
	if e, ok := list.Before(k); ok != (at > 0) || ok && !alike(e, m.entries[at-1]) {
		t.Fatalf("Before(%v) = %v, %t", k, e, ok)
	}
}

func TestLongRuns(t *testing.T) {
	state := uint64(1)
	roll := func(n int) int {
		state = state*6364136223846793005 + 1442695040888963407
		return int((state >> 33) % uint64(n))
	}
	for run := range 20 {
		list, m := skip.New(), &model{heights: map[string]int{}}
		most := 1 + run%api.MaxHeight
		for range 120 {
			k := api.Key{User: []byte(text(70)[:1+roll(3)]), Seq: uint64(roll(5)), Kind: byte(1 + roll(2))}
			k.User[len(k.User)-1] = byte(roll(6))
			e := api.Entry{Key: k, Value: []byte(text(roll(5)))}
			height := 1 + roll(most)
			if got, want := list.Insert(e, height), m.insert(e, height); got != want {
				t.Fatalf("Insert(%v, %d) = %d, want %d", e, height, got, want)
			}
			m.agrees(t, list, api.Key{User: []byte{byte(roll(7))}, Seq: uint64(roll(6)), Kind: byte(roll(4))})
		}
	}
}
