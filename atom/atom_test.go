package atom_test

import (
	"bytes"
	"math"
	"testing"

	"bartizan/api"
	"bartizan/atom"
)

// form is a number and its bytes.
type form struct {
	n uint64
	p []byte
}

// forms holds numbers at each edge of the chapter's words.
func forms() []form {
	return []form{
		{0, []byte{0}},
		{1, []byte{1}},
		{239, []byte{0xef}},
		{240, []byte{0xf0}},
		{241, []byte{0xf1, 0x01}},
		{495, []byte{0xf1, 0xff}},
		{496, []byte{0xf2, 0x00}},
		{2287, []byte{0xf8, 0xff}},
		{2288, []byte{0xf9, 0x00, 0x00}},
		{2543, []byte{0xf9, 0x00, 0xff}},
		{2544, []byte{0xf9, 0x01, 0x00}},
		{67823, []byte{0xf9, 0xff, 0xff}},
		{67824, []byte{0xfa, 0x01, 0x08, 0xf0}},
		{1<<24 - 1, []byte{0xfa, 0xff, 0xff, 0xff}},
		{1 << 24, []byte{0xfb, 0x01, 0x00, 0x00, 0x00}},
		{1<<32 - 1, []byte{0xfb, 0xff, 0xff, 0xff, 0xff}},
		{1 << 32, []byte{0xfc, 0x01, 0, 0, 0, 0}},
		{1<<40 - 1, []byte{0xfc, 0xff, 0xff, 0xff, 0xff, 0xff}},
		{1 << 40, []byte{0xfd, 0x01, 0, 0, 0, 0, 0}},
		{1<<48 - 1, []byte{0xfd, 0xff, 0xff, 0xff, 0xff, 0xff, 0xff}},
		{1 << 48, []byte{0xfe, 0x01, 0, 0, 0, 0, 0, 0}},
		{1<<56 - 1, []byte{0xfe, 0xff, 0xff, 0xff, 0xff, 0xff, 0xff, 0xff}},
		{1 << 56, []byte{0xff, 0x01, 0, 0, 0, 0, 0, 0, 0}},
		{0x0123456789abcdef, []byte{0xff, 0x01, 0x23, 0x45, 0x67, 0x89, 0xab, 0xcd, 0xef}},
		{math.MaxUint64, []byte{0xff, 0xff, 0xff, 0xff, 0xff, 0xff, 0xff, 0xff, 0xff}},
	}
}

// rising holds numbers that rise: all of the short forms, and those about
// each power of two.
func rising() []uint64 {
	var l []uint64
	for n := range uint64(70000) {
		l = append(l, n)
	}
	for k := 17; k < 64; k++ {
		b := uint64(1) << k
		l = append(l, b-1, b, b+1, b+b/2)
	}
	return append(l, math.MaxUint64-1, math.MaxUint64)
}

// roomy copies p in front of spare room whose bytes are known.
func roomy(p []byte) []byte {
	q := bytes.Repeat([]byte{0xa5}, len(p)+16)
	copy(q, p)
	return q[:len(p)]
}

// untouched tells whether q, which roomy made of p, is as it was.
func untouched(q, p []byte) bool {
	return bytes.Equal(q[:len(p)+16], append(bytes.Clone(p), bytes.Repeat([]byte{0xa5}, 16)...))
}

// spoil writes over an answer and its spare room.
func spoil(p []byte) {
	p = p[:cap(p)]
	for i := range p {
		p[i] = 0x5a
	}
}

func TestNumAtEdges(t *testing.T) {
	for _, f := range forms() {
		if p := atom.Num(f.n); !bytes.Equal(p, f.p) {
			t.Errorf("Num(%d) = % x, want % x", f.n, p, f.p)
		}
	}
}

func TestTakeAtEdges(t *testing.T) {
	for _, f := range forms() {
		for _, rest := range [][]byte{nil, {0}, {0xff, 0xf9, 3}} {
			n, r, err := atom.Take(append(bytes.Clone(f.p), rest...))
			if n != f.n || !bytes.Equal(r, rest) || err != api.OK {
				t.Errorf("Take(% x, % x) = %d, % x, %d", f.p, rest, n, r, err)
			}
		}
	}
}

func TestTakeTurnsNumAbout(t *testing.T) {
	for _, n := range rising() {
		m, rest, err := atom.Take(append(atom.Num(n), 7, 8))
		if m != n || !bytes.Equal(rest, []byte{7, 8}) || err != api.OK {
			t.Fatalf("Take(Num(%d)) = %d, % x, %d", n, m, rest, err)
		}
	}
}

// P1.2
func TestNumRises(t *testing.T) {
	l := rising()
	for i := 1; i < len(l); i++ {
		a, b := atom.Num(l[i-1]), atom.Num(l[i])
		if !atom.Less(a, b) || atom.Less(b, a) || atom.Less(a, a) {
			t.Fatalf("%d: % x, %d: % x", l[i-1], a, l[i], b)
		}
	}
	edges := forms()
	for i, a := range edges {
		for j, b := range edges {
			if atom.Less(atom.Num(a.n), atom.Num(b.n)) != (i < j) {
				t.Errorf("Less of Num(%d), Num(%d)", a.n, b.n)
			}
		}
	}
}

func refusesTake(t *testing.T, p []byte, want api.Errno) {
	t.Helper()
	n, rest, err := atom.Take(p)
	if n != 0 || len(rest) != 0 || err != want {
		t.Errorf("Take(% x) = %d, % x, %d, want error %d", p, n, rest, err, want)
	}
}

func TestTakeShort(t *testing.T) {
	refusesTake(t, nil, api.ErrShort)
	for _, f := range forms() {
		for size := range len(f.p) {
			refusesTake(t, f.p[:size], api.ErrShort)
		}
	}
	// What is there is no number's beginning, but it ends too early first.
	refusesTake(t, []byte{0xfa, 0, 0}, api.ErrShort)
	refusesTake(t, []byte{0xff, 0, 0, 0, 0, 0, 0, 0}, api.ErrShort)
	for first := 241; first < 256; first++ {
		refusesTake(t, []byte{byte(first)}, api.ErrShort)
	}
}

func TestTakeForm(t *testing.T) {
	for _, p := range [][]byte{
		{0xf1, 0x00},
		{0xf1, 0x00, 0x01},
		{0xfa, 0x00, 0x00, 0x00},
		{0xfa, 0x00, 0x00, 0x01},
		{0xfa, 0x00, 0xff, 0xff},
		{0xfa, 0x01, 0x08, 0xef},
		{0xfa, 0x01, 0x00, 0xff},
		{0xfb, 0x00, 0x01, 0x08, 0xf0},
		{0xfb, 0x00, 0xff, 0xff, 0xff},
		{0xfb, 0x00, 0x00, 0x00, 0x00, 0x01},
		{0xfc, 0x00, 0xff, 0xff, 0xff, 0xff},
		{0xfd, 0x00, 0xff, 0xff, 0xff, 0xff, 0xff},
		{0xfe, 0x00, 0xff, 0xff, 0xff, 0xff, 0xff, 0xff},
		{0xff, 0x00, 0xff, 0xff, 0xff, 0xff, 0xff, 0xff, 0xff},
		{0xff, 0x00, 0x00, 0x00, 0x00, 0x00, 0x00, 0x00, 0x00},
	} {
		refusesTake(t, p, api.ErrForm)
	}
}

func TestTakeOfAllPairs(t *testing.T) {
	for a := range 256 {
		for b := range 256 {
			p := []byte{byte(a), byte(b)}
			switch {
			case a <= 240:
				if n, rest, err := atom.Take(p); n != uint64(a) || !bytes.Equal(rest, p[1:]) || err != api.OK {
					t.Fatalf("Take(% x) = %d, % x, %d", p, n, rest, err)
				}
			case a == 241 && b == 0:
				refusesTake(t, p, api.ErrForm)
			case a <= 248:
				want := uint64(240 + 256*(a-241) + b)
				if n, rest, err := atom.Take(p); n != want || len(rest) != 0 || err != api.OK {
					t.Fatalf("Take(% x) = %d, % x, %d", p, n, rest, err)
				}
			default:
				refusesTake(t, p, api.ErrShort)
			}
		}
	}
}

// text makes one of so many bytes, each unlike its neighbours.
func text(size int) []byte {
	p := make([]byte, size)
	for i := range p {
		p[i] = byte(i*7 + i>>8)
	}
	return p
}

func TestText(t *testing.T) {
	for _, f := range forms() {
		if f.n > 70000 {
			break
		}
		x := text(int(f.n))
		p := atom.Text(x)
		if !bytes.Equal(p, append(bytes.Clone(f.p), x...)) {
			t.Errorf("Text of %d bytes", f.n)
		}
		y, rest, err := atom.TakeText(append(p, 1, 2, 3), len(x))
		if !bytes.Equal(y, x) || !bytes.Equal(rest, []byte{1, 2, 3}) || err != api.OK {
			t.Errorf("TakeText of %d bytes: %d bytes, % x, %d", f.n, len(y), rest, err)
		}
		y, rest, err = atom.TakeText(p, math.MaxInt)
		if !bytes.Equal(y, x) || len(rest) != 0 || err != api.OK {
			t.Errorf("TakeText of %d bytes and no more: %d bytes, % x, %d", f.n, len(y), rest, err)
		}
	}
}

func TestTakeTextRefuses(t *testing.T) {
	ab := []byte{2, 'a', 'b', 'c'}
	greatest := bytes.Repeat([]byte{0xff}, 12)
	below := atom.Num(math.MaxInt64)
	for _, c := range []struct {
		p    []byte
		most int
		want api.Errno
	}{
		{nil, 5, api.ErrShort},
		{nil, -1, api.ErrShort},
		{[]byte{0xf1}, 0, api.ErrShort},
		{[]byte{0xfa, 0, 0}, 5, api.ErrShort},
		{[]byte{0xf1, 0}, 5, api.ErrForm},
		{[]byte{0xf1, 0}, 500, api.ErrForm},
		{[]byte{0xfa, 0, 0, 1, 'a'}, 5, api.ErrForm},
		{[]byte{0xfa, 0, 0, 1, 'a'}, -5, api.ErrForm},
		{ab, 1, api.ErrLong},
		{ab, 0, api.ErrLong},
		{ab, -1, api.ErrLong},
		{ab, math.MinInt, api.ErrLong},
		{ab[:2], 1, api.ErrLong},
		{ab[:1], 1, api.ErrLong},
		{[]byte{0}, -1, api.ErrLong},
		{[]byte{0}, math.MinInt, api.ErrLong},
		{ab[:2], 2, api.ErrShort},
		{ab[:1], 2, api.ErrShort},
		{ab[:2], math.MaxInt, api.ErrShort},
		{atom.Text(text(241))[:242], 241, api.ErrShort},
		{atom.Text(text(241)), 240, api.ErrLong},
		{greatest, math.MaxInt, api.ErrLong},
		{greatest, -1, api.ErrLong},
		{below, math.MaxInt, api.ErrShort},
	} {
		x, rest, err := atom.TakeText(c.p, c.most)
		if len(x) != 0 || len(rest) != 0 || err != c.want {
			t.Errorf("TakeText(% x, %d) = % x, % x, %d, want error %d", c.p, c.most, x, rest, err, c.want)
		}
	}
}

func TestTakeTextOfNone(t *testing.T) {
	x, rest, err := atom.TakeText([]byte{0, 9}, 0)
	if len(x) != 0 || !bytes.Equal(rest, []byte{9}) || err != api.OK {
		t.Errorf("% x, % x, %d", x, rest, err)
	}
	if p := atom.Text(nil); !bytes.Equal(p, []byte{0}) {
		t.Errorf("% x", p)
	}
}

func TestJoin(t *testing.T) {
	for _, c := range []struct {
		l    [][]byte
		want string
	}{
		{nil, ""},
		{[][]byte{nil}, ""},
		{[][]byte{{}, nil, {}}, ""},
		{[][]byte{[]byte("ab")}, "ab"},
		{[][]byte{[]byte("ab"), nil, []byte("c"), {}, []byte("def")}, "abcdef"},
		{[][]byte{[]byte("b"), []byte("a"), []byte("b")}, "bab"},
	} {
		if p := atom.Join(c.l...); string(p) != c.want {
			t.Errorf("Join(%q) = %q", c.l, p)
		}
	}
	if p := atom.Join(); len(p) != 0 {
		t.Errorf("Join() = %q", p)
	}
}

func TestLess(t *testing.T) {
	rise := []string{"", "\x00", "\x00\x00", "\x01", "a", "a\x00", "ab", "ab\x00", "abc", "ac", "b", "\x7f", "\x7f\xff", "\x80", "\xff", "\xff\x00", "\xff\xff"}
	for i, a := range rise {
		for j, b := range rise {
			if atom.Less([]byte(a), []byte(b)) != (i < j) {
				t.Errorf("Less(%q, %q)", a, b)
			}
		}
	}
	if atom.Less(nil, nil) || atom.Less(nil, []byte{}) || atom.Less([]byte{}, nil) || !atom.Less(nil, []byte{0}) {
		t.Error("Less of nothing")
	}
}

func TestTakeMemory(t *testing.T) {
	was := []byte{0xf9, 0, 0, 1, 2, 3}
	p := roomy(was)
	_, first, _ := atom.Take(p)
	_, second, _ := atom.Take(p)
	spoil(first)
	if !untouched(p, was) || !bytes.Equal(second, []byte{1, 2, 3}) {
		t.Errorf("an answer shares memory: % x, % x", p, second)
	}
	spoil(p)
	if !bytes.Equal(second, []byte{1, 2, 3}) {
		t.Errorf("an answer follows its argument: % x", second)
	}
}

func TestTakeTextMemory(t *testing.T) {
	was := []byte{2, 'a', 'b', 'c', 'd'}
	p := roomy(was)
	x, rest, _ := atom.TakeText(p, 2)
	spoil(x)
	if !untouched(p, was) || string(rest) != "cd" {
		t.Errorf("the text shares memory: % x, %q", p, rest)
	}
	x, rest, _ = atom.TakeText(p, 2)
	spoil(rest)
	if !untouched(p, was) || string(x) != "ab" {
		t.Errorf("the rest shares memory: % x, %q", p, x)
	}
	spoil(p)
	if string(x) != "ab" {
		t.Errorf("the text follows its argument: %q", x)
	}
}

func TestJoinAndTextMemory(t *testing.T) {
	a, b := roomy([]byte("ab")), roomy([]byte("cd"))
	l := [][]byte{a, b}
	for _, p := range [][]byte{atom.Join(l...), atom.Join(l[:1]...), atom.Join(a, nil), atom.Join(nil, b), atom.Text(a)} {
		spoil(p)
	}
	if !untouched(a, []byte("ab")) || !untouched(b, []byte("cd")) {
		t.Errorf("an answer shares memory: % x, % x", a, b)
	}
	if &l[0][0] != &a[0] || &l[1][0] != &b[0] {
		t.Error("the list was changed")
	}
	one, whole := atom.Join(a), atom.Text(a)
	spoil(a)
	if string(one) != "ab" || string(whole) != "\x02ab" {
		t.Errorf("an answer follows its argument: %q, %q", one, whole)
	}
}

// P2
func TestNumAnswersTheSameAgain(t *testing.T) {
	for _, f := range forms() {
		spoil(atom.Num(f.n))
		if p := atom.Num(f.n); !bytes.Equal(p, f.p) {
			t.Errorf("Num(%d) = % x the second time", f.n, p)
		}
	}
}
