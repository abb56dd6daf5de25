package ikey_test

import (
	"bytes"
	"math"
	"slices"
	"testing"

	"bartizan/api"
	"bartizan/ikey"
)

// version makes one.
func version(user string, seq uint64, kind byte) api.Key {
	return api.Key{User: []byte(user), Seq: seq, Kind: kind}
}

// same tells whether two versions have the same fields.
func same(a, b api.Key) bool {
	return bytes.Equal(a.User, b.User) && a.Seq == b.Seq && a.Kind == b.Kind
}

// none tells whether k is the zero value.
func none(k api.Key) bool {
	return len(k.User) == 0 && k.Seq == 0 && k.Kind == 0
}

// text makes one of so many bytes, each unlike its neighbours.
func text(size int) string {
	p := make([]byte, size)
	for i := range p {
		p[i] = byte(i*7 + 1)
	}
	return string(p)
}

// roomy copies p in front of spare room whose bytes are known.
func roomy(p string) []byte {
	q := bytes.Repeat([]byte{0xa5}, len(p)+16)
	copy(q, p)
	return q[:len(p)]
}

// untouched tells whether q, which roomy made of p, is as it was.
func untouched(q []byte, p string) bool {
	return bytes.Equal(q[:len(p)+16], append([]byte(p), bytes.Repeat([]byte{0xa5}, 16)...))
}

// spoil writes over an answer and its spare room.
func spoil(p []byte) {
	p = p[:cap(p)]
	for i := range p {
		p[i] = 0x5a
	}
}

// form is a right version and its bytes.
type form struct {
	k api.Key
	p []byte
}

// forms holds right versions at the edges of the chapter's words.
func forms() []form {
	long := text(api.MaxKey)
	return []form{
		{version("a", 1, api.Put), []byte{1, 'a', 2, 1, 0, 0, 0, 0, 0, 0}},
		{version("a", 1, api.Delete), []byte{1, 'a', 1, 1, 0, 0, 0, 0, 0, 0}},
		{version("a", 0, api.Delete), []byte{1, 'a', 1, 0, 0, 0, 0, 0, 0, 0}},
		{version("a", 0, api.Put), []byte{1, 'a', 2, 0, 0, 0, 0, 0, 0, 0}},
		{version("a", 255, api.Put), []byte{1, 'a', 2, 255, 0, 0, 0, 0, 0, 0}},
		{version("a", 256, api.Put), []byte{1, 'a', 2, 0, 1, 0, 0, 0, 0, 0}},
		{version("\x00\xff", 0x01020304050607, api.Delete), []byte{2, 0, 255, 1, 7, 6, 5, 4, 3, 2, 1}},
		{version("ab", api.MaxSeq-1, api.Put), []byte{2, 'a', 'b', 2, 254, 255, 255, 255, 255, 255, 255}},
		{version("ab", api.MaxSeq, api.Put), []byte{2, 'a', 'b', 2, 255, 255, 255, 255, 255, 255, 255}},
		{version("\x00", api.MaxSeq, api.Delete), []byte{1, 0, 1, 255, 255, 255, 255, 255, 255, 255}},
		{version(long, 9, api.Put), append(append([]byte{64}, long...), 2, 9, 0, 0, 0, 0, 0, 0)},
	}
}

// wrong holds versions that aren't right, and why. Where several errors apply, the least goes first.
func wrong() map[api.Errno][]api.Key {
	long := text(api.MaxKey + 1)
	return map[api.Errno][]api.Key{
		api.ErrArg: {
			version("a", api.MaxSeq+1, api.Put),
			version("a", api.MaxSeq+1, api.Delete),
			version("a", math.MaxUint64, api.Put),
			version("a", 1, 0),
			version("a", 1, api.Range),
			version("a", 1, 4),
			version("a", 1, 129),
			version("a", 1, 255),
			version("", 1, 0),
			version("", api.MaxSeq+1, api.Put),
			version(long, 1, api.Range),
			version(long, api.MaxSeq+1, api.Delete),
			version("", math.MaxUint64, 255),
			{},
		},
		api.ErrShort: {
			version("", 1, api.Put),
			version("", 0, api.Delete),
			version("", api.MaxSeq, api.Put),
			{User: nil, Seq: 1, Kind: api.Put},
			{User: []byte("abc")[:0], Seq: 1, Kind: api.Put},
		},
		api.ErrLong: {
			version(long, 1, api.Put),
			version(long, api.MaxSeq, api.Delete),
			version(text(256), 1, api.Put),
			version(text(256+3), 1, api.Put),
			version(text(70000), 1, api.Put),
		},
	}
}

func TestCheckOfRight(t *testing.T) {
	for _, f := range forms() {
		if err := ikey.Check(f.k); err != api.OK {
			t.Errorf("Check(%v) = %d", f.k, err)
		}
	}
	for size := 1; size <= api.MaxKey; size++ {
		if err := ikey.Check(version(text(size), 1, api.Put)); err != api.OK {
			t.Errorf("Check of %d bytes = %d", size, err)
		}
	}
}

func TestCheckAndBytesOfWrong(t *testing.T) {
	for want, l := range wrong() {
		for _, k := range l {
			if err := ikey.Check(k); err != want {
				t.Errorf("Check(%v) = %d, want %d", k, err, want)
			}
			if p, err := ikey.Bytes(k); len(p) != 0 || err != want {
				t.Errorf("Bytes(%v) = % x, %d, want %d", k, p, err, want)
			}
		}
	}
}

func TestCheckOfEachKind(t *testing.T) {
	for kind := range 256 {
		want := api.ErrArg
		if kind == api.Delete || kind == api.Put {
			want = api.OK
		}
		if err := ikey.Check(version("a", 7, byte(kind))); err != want {
			t.Errorf("Kind %d: %d", kind, err)
		}
	}
}

func TestBytes(t *testing.T) {
	for _, f := range forms() {
		if p, err := ikey.Bytes(f.k); !bytes.Equal(p, f.p) || err != api.OK {
			t.Errorf("Bytes(%v) = % x, %d, want % x", f.k, p, err, f.p)
		}
	}
}

func TestRead(t *testing.T) {
	for _, f := range forms() {
		for _, behind := range []string{"", "\x00", "\xff\x02\x01", text(100)} {
			k, rest, err := ikey.Read(append(bytes.Clone(f.p), behind...))
			if !same(k, f.k) || string(rest) != behind || err != api.OK {
				t.Errorf("Read(% x, % x) = %v, % x, %d", f.p, behind, k, rest, err)
			}
		}
	}
}

func TestReadOneBehindTheOther(t *testing.T) {
	var p []byte
	for _, f := range forms() {
		p = append(p, f.p...)
	}
	for _, f := range forms() {
		k, rest, err := ikey.Read(p)
		if !same(k, f.k) || err != api.OK {
			t.Fatalf("Read = %v, %d, want %v", k, err, f.k)
		}
		p = rest
	}
	if len(p) != 0 {
		t.Errorf("behind the last one: % x", p)
	}
}

func refusesRead(t *testing.T, p []byte, want api.Errno) {
	t.Helper()
	k, rest, err := ikey.Read(p)
	if !none(k) || len(rest) != 0 || err != want {
		t.Errorf("Read(% x) = %v, % x, %d, want error %d", p, k, rest, err, want)
	}
}

func TestReadOfWhatEndsTooEarly(t *testing.T) {
	refusesRead(t, nil, api.ErrShort)
	for _, f := range forms() {
		for size := range len(f.p) {
			refusesRead(t, f.p[:size], api.ErrShort)
		}
	}
	// What there is of them isn't right, but they end too early first.
	refusesRead(t, []byte{0}, api.ErrShort)
	refusesRead(t, []byte{0, 2, 0, 0, 0, 0, 0, 0}, api.ErrShort)
	refusesRead(t, []byte{1, 'a', 9, 0, 0, 0, 0, 0, 0}, api.ErrShort)
}

func TestReadOfNoVersion(t *testing.T) {
	for _, p := range [][]byte{
		{0, 2, 1, 0, 0, 0, 0, 0, 0},
		{0, 0, 0, 0, 0, 0, 0, 0, 0},
		{0, 2, 1, 0, 0, 0, 0, 0, 0, 0, 7},
		{1, 'a', 0, 1, 0, 0, 0, 0, 0, 0},
		{1, 'a', 3, 1, 0, 0, 0, 0, 0, 0},
		{1, 'a', 4, 1, 0, 0, 0, 0, 0, 0, 7},
		{1, 'a', 130, 1, 0, 0, 0, 0, 0, 0},
		{1, 'a', 255, 255, 255, 255, 255, 255, 255, 255},
		{0xf1, 0, 'a', 2, 1, 0, 0, 0, 0, 0, 0},
		{0xfa, 0, 0, 1, 'a', 2, 1, 0, 0, 0, 0, 0, 0},
	} {
		refusesRead(t, p, api.ErrForm)
	}
}

func TestReadOfALongUser(t *testing.T) {
	long := text(api.MaxKey + 1)
	whole := append(append([]byte{65}, long...), 2, 1, 0, 0, 0, 0, 0, 0)
	refusesRead(t, whole, api.ErrLong)
	// Too long goes ahead of what is missing, and of what isn't right behind it.
	refusesRead(t, whole[:40], api.ErrLong)
	refusesRead(t, whole[:1], api.ErrLong)
	refusesRead(t, append(append([]byte{65}, long...), 9, 1, 0, 0, 0, 0, 0, 0), api.ErrLong)
	refusesRead(t, []byte{0xf1, 1}, api.ErrLong)
	refusesRead(t, bytes.Repeat([]byte{0xff}, 20), api.ErrLong)
	refusesRead(t, []byte{0xff, 0xff}, api.ErrShort)
}

func TestReadTurnsBytesAbout(t *testing.T) {
	for shift := range 56 {
		for _, kind := range []byte{api.Delete, api.Put} {
			was := version(text(1+shift), 1<<shift|5&(1<<shift-1), kind)
			p, _ := ikey.Bytes(was)
			if k, rest, err := ikey.Read(p); !same(k, was) || len(rest) != 0 || err != api.OK {
				t.Errorf("Read(Bytes(%v)) = %v, % x, %d", was, k, rest, err)
			}
		}
	}
}

// order holds versions, right ones and others, each ahead of those that follow.
func order() []api.Key {
	return []api.Key{
		version("", math.MaxUint64, 255),
		version("", 3, 1),
		version("", 0, 0),
		version("\x00", 1, api.Put),
		version("A", 0, api.Delete),
		version("a", math.MaxUint64, api.Put),
		version("a", api.MaxSeq+1, api.Put),
		version("a", api.MaxSeq, api.Put),
		version("a", api.MaxSeq, api.Delete),
		version("a", 1<<32, api.Delete),
		version("a", 256, api.Delete),
		version("a", 5, 255),
		version("a", 5, 128),
		version("a", 5, api.Range),
		version("a", 5, api.Put),
		version("a", 5, api.Delete),
		version("a", 5, 0),
		version("a", 4, api.Put),
		version("a", 0, api.Put),
		version("a", 0, 0),
		version("a\x00", 9, api.Put),
		version("ab", 9, api.Delete),
		version("ab", 8, api.Put),
		version("abc", 1, api.Put),
		version("ac", 1, api.Put),
		version("b", 9, api.Put),
		version("b", 1, api.Put),
		version("\x7f", 1, api.Put),
		version("\x80", 1, api.Put),
		version("\xff", 1, api.Put),
		version("\xff"+text(100), 2, api.Put),
		version("\xff\xff", 1, api.Put),
	}
}

func TestCompare(t *testing.T) {
	l := order()
	for i, a := range l {
		for j, b := range l {
			want := 0
			if i < j {
				want = -1
			} else if i > j {
				want = 1
			}
			if c := ikey.Compare(a, b); c != want {
				t.Errorf("Compare(%v, %v) = %d, want %d", a, b, c, want)
			}
		}
	}
	if c := ikey.Compare(api.Key{Seq: 1}, api.Key{User: []byte{}, Seq: 1}); c != 0 {
		t.Errorf("Compare of nil and none = %d", c)
	}
}

func TestUpto(t *testing.T) {
	for _, c := range []struct {
		seq, want uint64
	}{
		{0, 0},
		{1, 1},
		{4, 4},
		{api.MaxSeq - 1, api.MaxSeq - 1},
		{api.MaxSeq, api.MaxSeq},
		{api.MaxSeq + 1, api.MaxSeq},
		{math.MaxUint64, api.MaxSeq},
	} {
		for _, user := range []string{"", "a", text(api.MaxKey), text(api.MaxKey + 1)} {
			if k := ikey.Upto([]byte(user), c.seq); !same(k, version(user, c.want, api.Put)) {
				t.Errorf("Upto(%q, %d) = %v", user, c.seq, k)
			}
		}
	}
	if k := ikey.Upto(nil, 3); !same(k, version("", 3, api.Put)) {
		t.Errorf("Upto(nil, 3) = %v", k)
	}
}

// Of a key's right versions those with Seq at most seq, and no others, don't stand ahead of Upto.
func TestUptoStandsFirst(t *testing.T) {
	seqs := []uint64{0, 1, 4, 5, 6, api.MaxSeq - 1, api.MaxSeq}
	for _, most := range append(slices.Clone(seqs), math.MaxUint64) {
		k := ikey.Upto([]byte("a"), most)
		for _, seq := range seqs {
			for _, kind := range []byte{api.Delete, api.Put} {
				ahead := ikey.Compare(version("a", seq, kind), k) < 0
				if ahead != (seq > most) {
					t.Errorf("Upto(a, %d) and a at %d, %d", most, seq, kind)
				}
			}
		}
	}
}

func TestAfter(t *testing.T) {
	for _, user := range []string{"", "a", "ab", "\x00", "\xff", "\xff\xff", text(api.MaxKey), text(300)} {
		p := ikey.After([]byte(user))
		if string(p) != user+"\x00" {
			t.Errorf("After(%q) = %q", user, p)
		}
	}
	if p := ikey.After(nil); !bytes.Equal(p, []byte{0}) {
		t.Errorf("After(nil) = % x", p)
	}
}

func TestBytesMemory(t *testing.T) {
	user := roomy("ab")
	k := api.Key{User: user, Seq: 3, Kind: api.Put}
	first, _ := ikey.Bytes(k)
	second, _ := ikey.Bytes(k)
	spoil(first)
	want := []byte{2, 'a', 'b', 2, 3, 0, 0, 0, 0, 0, 0}
	if !untouched(user, "ab") || !bytes.Equal(second, want) {
		t.Errorf("an answer shares memory: % x, % x", user, second)
	}
	spoil(user)
	if !bytes.Equal(second, want) {
		t.Errorf("an answer follows its argument: % x", second)
	}
}

func TestReadMemory(t *testing.T) {
	was := "\x02ab\x02\x03\x00\x00\x00\x00\x00\x00xyz"
	p := roomy(was)
	k, rest, _ := ikey.Read(p)
	spoil(k.User)
	if !untouched(p, was) || string(rest) != "xyz" {
		t.Errorf("User shares memory: % x, %q", p, rest)
	}
	k, rest, _ = ikey.Read(p)
	spoil(rest)
	if !untouched(p, was) || string(k.User) != "ab" {
		t.Errorf("the rest shares memory: % x, %q", p, k.User)
	}
	again, rest, _ := ikey.Read(p)
	spoil(k.User)
	spoil(p)
	if string(again.User) != "ab" || string(rest) != "xyz" {
		t.Errorf("an answer follows its argument, or an earlier one: %q, %q", again.User, rest)
	}
}

func TestUptoAndAfterMemory(t *testing.T) {
	user := roomy("ab")
	spoil(ikey.Upto(user, 1).User)
	spoil(ikey.After(user))
	if !untouched(user, "ab") {
		t.Errorf("an answer shares memory: % x", user)
	}
	k, next := ikey.Upto(user, 1), ikey.After(user)
	spoil(user)
	if string(k.User) != "ab" || string(next) != "ab\x00" {
		t.Errorf("an answer follows its argument: %q, %q", k.User, next)
	}
}

func TestWhatAnswersNoBytesLeavesItsArguments(t *testing.T) {
	a, b := roomy("ab"), roomy("ac")
	ikey.Check(api.Key{User: a})
	ikey.Compare(api.Key{User: a}, api.Key{User: b})
	ikey.Compare(api.Key{User: b}, api.Key{User: a})
	if !untouched(a, "ab") || !untouched(b, "ac") {
		t.Errorf("% x, % x", a, b)
	}
}
