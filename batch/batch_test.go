package batch_test

import (
	"bytes"
	"slices"
	"testing"

	"bartizan/api"
	"bartizan/batch"
)

func put(key, value string) api.Op {
	return api.Op{Kind: api.Put, Key: []byte(key), Value: []byte(value)}
}

func del(key string) api.Op {
	return api.Op{Kind: api.Delete, Key: []byte(key)}
}

func span(from, to string) api.Op {
	return api.Op{Kind: api.Range, Key: []byte(from), Value: []byte(to)}
}

func op(kind byte, key, value string) api.Op {
	return api.Op{Kind: kind, Key: []byte(key), Value: []byte(value)}
}

// same tells whether two ops have the same fields.
func same(a, b api.Op) bool {
	return a.Kind == b.Kind && bytes.Equal(a.Key, b.Key) && bytes.Equal(a.Value, b.Value)
}

// text makes one of so many bytes, each unlike its neighbours.
func text(size int) string {
	p := make([]byte, size)
	for i := range p {
		p[i] = byte(i*7 + i>>8 + 1)
	}
	return string(p)
}

// times makes a list of so many of o.
func times(count int, o api.Op) []api.Op {
	return slices.Repeat([]api.Op{o}, count)
}

// roomy copies p in front of spare room whose bytes are known.
func roomy(p string) []byte {
	q := bytes.Repeat([]byte{0xa5}, len(p)+16)
	copy(q, p)
	return q[:len(p)]
}

// untouched tells whether q, which roomy made of p, is as it was.
func untouched(q []byte, p string) bool {
	return bytes.Equal(q[:len(p)+16], append([]byte(p), bytes.Repeat([]byte{0xa5}, 16)...))
}

// spoil writes over an answer and its spare room.
func spoil(p []byte) {
	p = p[:cap(p)]
	for i := range p {
		p[i] = 0x5a
	}
}

// spoilOps writes over ops, what they hold, and all spare room.
func spoilOps(l []api.Op) {
	l = l[:cap(l)]
	for i := range l {
		spoil(l[i].Key)
		spoil(l[i].Value)
		l[i] = op(77, "spoilt", "spoilt")
	}
}

// right holds ops that are, at the edges of the chapter's words.
func right() []api.Op {
	return []api.Op{
		put("a", "x"),
		put("a", ""),
		{Kind: api.Put, Key: []byte("a")},
		put("\x00", "\x00"),
		put(text(api.MaxKey), text(api.MaxValue)),
		put("b", text(api.MaxKey+1)),
		put("b", text(240)),
		put("b", text(241)),
		put("b", "a"),
		del("a"),
		del("\xff"),
		{Kind: api.Delete, Key: []byte("a"), Value: []byte{}},
		del(text(api.MaxKey)),
		span("a", "b"),
		span("a", "a\x00"),
		span("\x00", "\xff"),
		span("\x7f", "\x80"),
		span("a"+text(api.MaxKey-1), "b"+text(api.MaxKey-1)),
		span("a", "b"+text(api.MaxKey-1)),
	}
}

// wrong holds ops that aren't right, and why. Where several errors apply, that goes first under which they stand.
func wrong() map[api.Errno][]api.Op {
	long := text(api.MaxKey + 1)
	return map[api.Errno][]api.Op{
		api.ErrArg: {
			{},
			op(0, "a", "x"),
			op(4, "a", "x"),
			op(9, "b", ""),
			op(130, "a", "x"),
			op(255, "a", ""),
			op(0, long, ""),
			op(4, "a", text(api.MaxValue+1)),
			op(4, "", ""),
			op(4, "b", "a"),
		},
		api.ErrLong: {
			put(long, "x"),
			put("a", text(api.MaxValue+1)),
			put("a", text(70000)),
			put(long, text(api.MaxValue+1)),
			put("", text(api.MaxValue+1)),
			del(long),
			del(text(256)),
			op(api.Delete, long, "x"),
			op(api.Delete, long, text(api.MaxValue+1)),
			span(long, "\xff"),
			span("a", "b"+text(api.MaxKey)),
			span("b", "a"+text(api.MaxKey)),
			span("", long),
			span(long, ""),
			span(long, long),
			span("a", text(api.MaxValue+1)),
		},
		api.ErrForm: {
			put("", "x"),
			put("", ""),
			put("", text(api.MaxValue)),
			{Kind: api.Put},
			del(""),
			op(api.Delete, "a", "x"),
			op(api.Delete, "", "x"),
			op(api.Delete, "a", text(api.MaxKey+1)),
			op(api.Delete, "a", text(api.MaxValue+1)),
			op(api.Delete, text(api.MaxKey), "\x00"),
			span("a", ""),
			span("a", "a"),
			span("b", "a"),
			span("a\x00", "a"),
			span("\x80", "\x7f"),
			span("", "a"),
			span("", ""),
			span("", text(api.MaxKey)),
			{Kind: api.Range},
		},
	}
}

func TestCheckOpOfRight(t *testing.T) {
	for _, o := range right() {
		if err := batch.CheckOp(o); err != api.OK {
			t.Errorf("CheckOp(%q) = %d", o, err)
		}
	}
}

func TestCheckOpOfWrong(t *testing.T) {
	for want, l := range wrong() {
		for _, o := range l {
			if err := batch.CheckOp(o); err != want {
				t.Errorf("CheckOp(%q) = %d, want %d", o, err, want)
			}
		}
	}
}

func TestCheckOpOfEachKind(t *testing.T) {
	for kind := range 256 {
		want := api.ErrArg
		switch kind {
		case api.Put, api.Range:
			want = api.OK
		case api.Delete:
			want = api.ErrForm
		}
		if err := batch.CheckOp(op(byte(kind), "a", "b")); err != want {
			t.Errorf("Kind %d: %d, want %d", kind, err, want)
		}
	}
}

func refuses(t *testing.T, l []api.Op, want api.Errno) {
	t.Helper()
	if err := batch.Check(l); err != want {
		t.Errorf("Check of %d ops = %d, want %d", len(l), err, want)
	}
	if p, err := batch.Bytes(l); len(p) != 0 || err != want {
		t.Errorf("Bytes of %d ops = % x, %d, want %d", len(l), p, err, want)
	}
}

func TestCheckOfRight(t *testing.T) {
	for _, l := range [][]api.Op{nil, {}, right(), times(api.MaxOps, put("a", "x"))} {
		if err := batch.Check(l); err != api.OK {
			t.Errorf("Check of %d ops = %d", len(l), err)
		}
	}
}

func TestCheckOfWrong(t *testing.T) {
	for want, l := range wrong() {
		for _, o := range l {
			refuses(t, []api.Op{o}, want)
			refuses(t, []api.Op{put("a", "x"), o}, want)
			refuses(t, append(times(api.MaxOps-1, del("a")), o), want)
		}
	}
}

func TestCheckTellsTheFirstError(t *testing.T) {
	arg, long, form := op(9, "a", ""), put("a", text(api.MaxValue+1)), del("")
	refuses(t, []api.Op{arg, long, form}, api.ErrArg)
	refuses(t, []api.Op{long, form, arg}, api.ErrLong)
	refuses(t, []api.Op{form, arg, long}, api.ErrForm)
	refuses(t, []api.Op{put("a", ""), form, arg}, api.ErrForm)
}

func TestCheckOfTooMany(t *testing.T) {
	refuses(t, times(api.MaxOps+1, put("a", "x")), api.ErrLong)
	refuses(t, times(api.MaxOps+1, op(9, "a", "")), api.ErrLong)
	refuses(t, times(api.MaxOps+1, del("")), api.ErrLong)
	refuses(t, make([]api.Op, api.MaxOps+1), api.ErrLong)
	refuses(t, times(256+1, put("a", "x")), api.ErrLong)
	refuses(t, times(1000, put("a", "x")), api.ErrLong)
}

// form is a batch and its bytes.
type form struct {
	l []api.Op
	p string
}

func forms() []form {
	key, value := text(api.MaxKey), text(api.MaxValue)
	return []form{
		{nil, "\x00"},
		{[]api.Op{put("a", "x")}, "\x01\x02\x01a\x01x"},
		{[]api.Op{put("a", "")}, "\x01\x02\x01a\x00"},
		{[]api.Op{del("a")}, "\x01\x01\x01a\x00"},
		{[]api.Op{span("a", "b")}, "\x01\x03\x01a\x01b"},
		{[]api.Op{put("b", "x"), span("a", "cd"), del("z\x00")}, "\x03\x02\x01b\x01x\x03\x01a\x02cd\x01\x02z\x00\x00"},
		{[]api.Op{put("a", text(240))}, "\x01\x02\x01a\xf0" + text(240)},
		{[]api.Op{put("a", text(241))}, "\x01\x02\x01a\xf1\x01" + text(241)},
		{[]api.Op{del("a"), put(key, value)}, "\x02\x01\x01a\x00\x02\x40" + key + "\xf2\x10" + value},
		{times(api.MaxOps, del("a")), "\x40" + string(bytes.Repeat([]byte("\x01\x01a\x00"), api.MaxOps))},
	}
}

func TestBytes(t *testing.T) {
	for _, f := range forms() {
		if p, err := batch.Bytes(f.l); string(p) != f.p || err != api.OK {
			t.Errorf("Bytes(%q) = % x, %d, want % x", f.l, p, err, f.p)
		}
	}
	if p, err := batch.Bytes([]api.Op{}); string(p) != "\x00" || err != api.OK {
		t.Errorf("Bytes of none = % x, %d", p, err)
	}
}

func TestRead(t *testing.T) {
	for _, f := range forms() {
		if l, err := batch.Read([]byte(f.p)); !slices.EqualFunc(l, f.l, same) || err != api.OK {
			t.Errorf("Read(% x) = %q, %d, want %q", f.p, l, err, f.l)
		}
	}
}

func TestReadTurnsBytesAbout(t *testing.T) {
	greatest := times(api.MaxOps, put(text(api.MaxKey), text(api.MaxValue)))
	for _, was := range [][]api.Op{right(), greatest} {
		p, err := batch.Bytes(was)
		if err != api.OK {
			t.Fatal(err)
		}
		if l, err := batch.Read(p); !slices.EqualFunc(l, was, same) || err != api.OK {
			t.Errorf("Read(Bytes) of %d ops: %d ops, %d", len(was), len(l), err)
		}
	}
}

func refusesRead(t *testing.T, p string) {
	t.Helper()
	if l, err := batch.Read([]byte(p)); len(l) != 0 || err != api.ErrForm {
		t.Errorf("Read(% x) = %q, %d", p, l, err)
	}
}

func TestReadOfNone(t *testing.T) {
	if l, err := batch.Read(nil); len(l) != 0 || err != api.ErrForm {
		t.Errorf("Read(nil) = %q, %d", l, err)
	}
	refusesRead(t, "")
}

func TestReadOfWhatEndsTooEarlyOrTooLate(t *testing.T) {
	for _, f := range forms() {
		for size := range len(f.p) {
			refusesRead(t, f.p[:size])
		}
		refusesRead(t, f.p+"\x00")
		refusesRead(t, f.p+"\x01")
		refusesRead(t, f.p+f.p)
		refusesRead(t, f.p+text(70))
	}
}

func TestReadOfNoBatch(t *testing.T) {
	long := text(api.MaxKey + 1)
	for _, p := range []string{
		// How many there are: another number than that of the ops, too great a one, none's bytes.
		"\x02\x02\x01a\x01x",
		"\x00\x02\x01a\x01x",
		"\x41" + string(bytes.Repeat([]byte("\x01\x01a\x00"), 65)),
		"\xf1\x01" + string(bytes.Repeat([]byte("\x01\x01a\x00"), 241)),
		"\xff\xff\xff\xff\xff\xff\xff\xff\xff\x02\x01a\x01x",
		"\xff\x80\x00\x00\x00\x00\x00\x00\x01\x02\x01a\x01x",
		"\xfa\x00\x00\x01\x02\x01a\x01x",
		"\xf1\x00",
		// A Kind that is none, as a byte too.
		"\x01\x00\x01a\x01x",
		"\x01\x04\x01a\x01x",
		"\x01\xf0\x01a\x01x",
		"\x01\xf1\x12\x01a\x01x",
		"\x01\xff\x01\x00\x00\x00\x00\x00\x00\x02\x01a\x01x",
		"\x01\xfa\x01\x09\x02\x01a\x01x",
		"\x01\xfa\x00\x00\x02\x01a\x01x",
		// Texts in another form, or longer than they may be.
		"\x01\x02\xfa\x00\x00\x01a\x01x",
		"\x01\x02\x01a\xfa\x00\x00\x01x",
		"\x01\x02\x41" + long + "\x01x",
		"\x01\x02\x01a\xf2\x11" + text(api.MaxValue+1),
		"\x01\x02\xff\xff\xff\xff\xff\xff\xff\xff\xff\x01x",
		// Ops that aren't right.
		"\x01\x02\x00\x01x",
		"\x01\x01\x00\x00",
		"\x01\x01\x01a\x01x",
		"\x01\x03\x00\x01a",
		"\x01\x03\x01a\x00",
		"\x01\x03\x01a\x01a",
		"\x01\x03\x01b\x01a",
		"\x01\x03\x01a\x41" + "b" + long[1:],
		"\x02\x02\x01a\x01x\x01\x01a\x01x",
		"\x02\x01\x01a\x01x\x02\x01a\x01x",
	} {
		refusesRead(t, p)
	}
}

// Whatever is read is right, and has no other bytes than those that were read.
func TestReadOfChangedBytes(t *testing.T) {
	was, _ := batch.Bytes([]api.Op{put("b", "x"), span("a", "cd"), del("z")})
	for i := range was {
		for b := range 256 {
			p := bytes.Clone(was)
			p[i] = byte(b)
			l, err := batch.Read(p)
			if err == api.OK {
				if q, err := batch.Bytes(l); !bytes.Equal(p, q) || err != api.OK {
					t.Errorf("Bytes(Read(% x)) = % x, %d", p, q, err)
				}
			} else if err != api.ErrForm || len(l) != 0 {
				t.Errorf("Read(% x) = %q, %d", p, l, err)
			}
		}
	}
}

func TestSize(t *testing.T) {
	for _, c := range []struct {
		l    []api.Op
		want int
	}{
		{nil, 0},
		{[]api.Op{}, 0},
		{[]api.Op{{}}, 0},
		{[]api.Op{put("a", "")}, 1},
		{[]api.Op{put("ab", "xyz"), del("c"), span("d", "ef")}, 9},
		{[]api.Op{op(0, "ab", "c"), op(255, "", "de"), op(api.Delete, "", "fgh")}, 8},
		{times(100, put(text(100), text(1000))), 110000},
	} {
		if n := batch.Size(c.l); n != c.want {
			t.Errorf("Size of %d ops = %d, want %d", len(c.l), n, c.want)
		}
	}
}

func over(t *testing.T, l []api.Op, key string, want api.Op) {
	t.Helper()
	if o, ok := batch.Over(l, []byte(key)); !ok || !same(o, want) {
		t.Errorf("Over(%q, %q) = %q, %t, want %q", l, key, o, ok, want)
	}
}

func notOver(t *testing.T, l []api.Op, key string) {
	t.Helper()
	if o, ok := batch.Over(l, []byte(key)); ok || !same(o, api.Op{}) {
		t.Errorf("Over(%q, %q) = %q, %t", l, key, o, ok)
	}
}

func TestOverOfOne(t *testing.T) {
	for _, o := range []api.Op{put("b", "x"), del("b")} {
		l := []api.Op{o}
		over(t, l, "b", o)
		for _, key := range []string{"", "a", "b\x00", "bb", "c", "x"} {
			notOver(t, l, key)
		}
	}
	l := []api.Op{span("b", "d")}
	for _, key := range []string{"b", "b\x00", "c", "c\xff\xff"} {
		over(t, l, key, l[0])
	}
	for _, key := range []string{"", "a", "a\xff", "d", "d\x00", "e"} {
		notOver(t, l, key)
	}
}

func TestOverTakesTheLast(t *testing.T) {
	l := []api.Op{put("b", "x"), span("a", "c")}
	over(t, l, "b", l[1])
	l = []api.Op{span("a", "c"), put("b", "x")}
	over(t, l, "b", l[1])
	over(t, l, "a", l[0])
	l = []api.Op{put("b", "x"), put("b", "y"), del("b"), put("c", "z")}
	over(t, l, "b", l[2])
	l = []api.Op{put("b", "x"), put("b", "y"), span("c", "d"), span("x", "z"), put("a", "")}
	over(t, l, "b", l[1])
	over(t, l, "c", l[2])
	over(t, l, "y", l[3])
	notOver(t, l, "z")
	l = append([]api.Op{put("k", "first")}, times(1000, del("other"))...)
	over(t, l, "k", l[0])
}

func TestOverOfAnyOps(t *testing.T) {
	notOver(t, nil, "a")
	notOver(t, []api.Op{}, "")
	if o, ok := batch.Over([]api.Op{del("a")}, nil); ok || !same(o, api.Op{}) {
		t.Errorf("Over of a nil key = %q, %t", o, ok)
	}
	l := []api.Op{{}}
	over(t, l, "", l[0])
	l = []api.Op{op(9, "a", "z"), op(0, "b", "y"), op(api.Delete, "c", "x")}
	over(t, l, "a", l[0])
	over(t, l, "b", l[1])
	over(t, l, "c", l[2])
	notOver(t, l, "d")
	// A Range whose Value isn't above its Key has no key at all.
	notOver(t, []api.Op{span("b", "b")}, "b")
	notOver(t, []api.Op{span("b", "a")}, "b")
	notOver(t, []api.Op{span("b", "a")}, "a")
	notOver(t, []api.Op{span("c", "a")}, "b")
	notOver(t, []api.Op{{Kind: api.Range}}, "")
	l = []api.Op{span("", "b")}
	over(t, l, "", l[0])
	over(t, l, "a", l[0])
	long := text(1000)
	l = []api.Op{put(long, "x")}
	over(t, l, long, l[0])
}

func TestCopy(t *testing.T) {
	var all []api.Op
	for _, l := range wrong() {
		all = append(all, l...)
	}
	all = append(all, right()...)
	for _, l := range [][]api.Op{nil, {}, {{}}, right(), all, times(1000, put("a", "x"))} {
		if m := batch.Copy(l); !slices.EqualFunc(m, l, same) {
			t.Errorf("Copy of %d ops: %d ops", len(l), len(m))
		}
	}
}

// roomyOps makes two ops, and the list's spare room holds a third one.
func roomyOps() []api.Op {
	l := []api.Op{
		{Kind: api.Put, Key: roomy("b"), Value: roomy("x")},
		{Kind: api.Range, Key: roomy("a"), Value: roomy("c")},
		{Kind: api.Delete, Key: roomy("spare"), Value: roomy("spare")},
	}
	return l[:2]
}

func untouchedOps(l []api.Op) bool {
	l = l[:3]
	return l[0].Kind == api.Put && untouched(l[0].Key, "b") && untouched(l[0].Value, "x") &&
		l[1].Kind == api.Range && untouched(l[1].Key, "a") && untouched(l[1].Value, "c") &&
		l[2].Kind == api.Delete && untouched(l[2].Key, "spare") && untouched(l[2].Value, "spare")
}

func TestNoCallTouchesOps(t *testing.T) {
	l, key := roomyOps(), roomy("b")
	batch.CheckOp(l[0])
	batch.CheckOp(l[1])
	batch.Check(l)
	batch.Size(l)
	p, _ := batch.Bytes(l)
	spoil(p)
	o, _ := batch.Over(l, key)
	spoil(o.Key)
	spoil(o.Value)
	o, _ = batch.Over(l[:1], key)
	spoil(o.Key)
	spoil(o.Value)
	spoilOps(batch.Copy(l))
	if !untouchedOps(l) || !untouched(key, "b") {
		t.Errorf("%q, %q", l[:3], key)
	}
}

func TestNoAnswerFollowsOps(t *testing.T) {
	l, key := roomyOps(), roomy("b")
	p, _ := batch.Bytes(l)
	o, _ := batch.Over(l[:1], key)
	m := batch.Copy(l)
	spoil(key)
	spoilOps(l)
	if string(p) != "\x02\x02\x01b\x01x\x03\x01a\x01c" || !same(o, put("b", "x")) || !slices.EqualFunc(m, []api.Op{put("b", "x"), span("a", "c")}, same) {
		t.Errorf("% x, %q, %q", p, o, m)
	}
}

func TestReadMemory(t *testing.T) {
	was := "\x03\x02\x01b\x02xy\x03\x01a\x01c\x01\x01z\x00"
	want := []api.Op{put("b", "xy"), span("a", "c"), del("z")}
	p := roomy(was)
	first, _ := batch.Read(p)
	second, _ := batch.Read(p)
	spoilOps(first)
	if !untouched(p, was) {
		t.Errorf("an answer shares memory: % x", p)
	}
	spoil(p)
	if !slices.EqualFunc(second, want, same) {
		t.Errorf("an answer follows its argument, or an earlier one: %q", second)
	}
}

// apart tells whether no list of the ops follows when another one is written over.
func apart(t *testing.T, answer func() []api.Op) {
	t.Helper()
	want := answer()
	for i := range want {
		l := answer()
		spoil(l[i].Key)
		l[i].Key = want[i].Key
		if !slices.EqualFunc(l, want, same) {
			t.Errorf("Key %d shares memory: %q", i, l)
		}
		l = answer()
		spoil(l[i].Value)
		l[i].Value = want[i].Value
		if !slices.EqualFunc(l, want, same) {
			t.Errorf("Value %d shares memory: %q", i, l)
		}
	}
}

func TestListsOfOneAnswerAreApart(t *testing.T) {
	one := []byte("b")
	shared := []api.Op{{Kind: api.Put, Key: one, Value: one}, {Kind: api.Put, Key: one, Value: one}}
	p, _ := batch.Bytes([]api.Op{put("b", "xy"), span("a", "c"), put("z", "")})
	apart(t, func() []api.Op { return batch.Copy(shared) })
	apart(t, func() []api.Op { l, _ := batch.Read(p); return l })
	apart(t, func() []api.Op { o, _ := batch.Over(shared, one); return []api.Op{o} })
}
