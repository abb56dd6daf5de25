package seal_test

import (
	"bytes"
	"hash/crc32"
	"math/bits"
	"testing"

	"bartizan/api"
	"bartizan/seal"
)

// text makes one of so many bytes, each unlike its neighbours.
func text(size int) []byte {
	p := make([]byte, size)
	for i := range p {
		p[i] = byte(i*31 + i>>8)
	}
	return p
}

// roomy copies p in front of spare room whose bytes are known.
func roomy(p []byte) []byte {
	q := bytes.Repeat([]byte{0xa5}, len(p)+16)
	copy(q, p)
	return q[:len(p)]
}

// untouched tells whether q, which roomy made of p, is as it was.
func untouched(q, p []byte) bool {
	return bytes.Equal(q[:len(p)+16], append(bytes.Clone(p), bytes.Repeat([]byte{0xa5}, 16)...))
}

// spoil writes over an answer and its spare room.
func spoil(p []byte) {
	p = p[:cap(p)]
	for i := range p {
		p[i] = 0x5a
	}
}

func TestSumOfKnownTexts(t *testing.T) {
	up, down := make([]byte, 32), make([]byte, 32)
	for i := range 32 {
		up[i], down[31-i] = byte(i), byte(i)
	}
	for _, c := range []struct {
		p    []byte
		want uint32
	}{
		{nil, 0},
		{[]byte("a"), 0xc1d04330},
		{[]byte("123456789"), 0xe3069283},
		{make([]byte, 32), 0x8a9136aa},
		{bytes.Repeat([]byte{0xff}, 32), 0x62a8ab43},
		{up, 0x46dd794e},
		{down, 0x113fdb5c},
	} {
		if s := seal.Sum(c.p); s != c.want {
			t.Errorf("Sum(% x) = %08x, want %08x", c.p, s, c.want)
		}
	}
	if s := seal.Sum(); s != 0 {
		t.Errorf("Sum() = %08x", s)
	}
}

func TestSumAgainstLibrary(t *testing.T) {
	table := crc32.MakeTable(crc32.Castagnoli)
	for b := range 256 {
		p := []byte{byte(b)}
		if s := seal.Sum(p); s != crc32.Checksum(p, table) {
			t.Errorf("Sum(%02x) = %08x", b, s)
		}
	}
	for _, size := range []int{2, 3, 4, 7, 63, 64, 65, 1000, 65536} {
		p := text(size)
		if s := seal.Sum(p); s != crc32.Checksum(p, table) {
			t.Errorf("Sum of %d bytes = %08x", size, s)
		}
	}
}

func TestSumOfPieces(t *testing.T) {
	p := []byte("123456789")
	for i := range len(p) + 1 {
		for j := i; j <= len(p); j++ {
			if s := seal.Sum(p[:i], nil, p[i:j], []byte{}, p[j:]); s != 0xe3069283 {
				t.Errorf("cut at %d and %d: %08x", i, j, s)
			}
		}
	}
	if s := seal.Sum(nil, []byte{}, nil); s != 0 {
		t.Errorf("Sum of no bytes = %08x", s)
	}
	if seal.Sum([]byte("ab"), []byte("cd")) == seal.Sum([]byte("cd"), []byte("ab")) {
		t.Error("the order of the pieces doesn't count")
	}
}

func TestMask(t *testing.T) {
	for _, c := range []struct{ s, want uint32 }{
		{0, 0xa282ead8},
		{1, 0xa284ead8},
		{1 << 15, 0xa282ead9},
		{1 << 14, 0x2282ead8},
		{0xffffffff, 0xa282ead7},
		{0xe3069283, 0xc78ab0e5},
	} {
		if m := seal.Mask(c.s); m != c.want {
			t.Errorf("Mask(%08x) = %08x, want %08x", c.s, m, c.want)
		}
		if s := seal.Unmask(c.want); s != c.s {
			t.Errorf("Unmask(%08x) = %08x, want %08x", c.want, s, c.s)
		}
	}
}

func TestUnmaskTurnsMaskAbout(t *testing.T) {
	try := func(s uint32) {
		if want := bits.RotateLeft32(s, 17) + 0xa282ead8; seal.Mask(s) != want {
			t.Errorf("Mask(%08x) = %08x, want %08x", s, seal.Mask(s), want)
		}
		if seal.Unmask(seal.Mask(s)) != s || seal.Mask(seal.Unmask(s)) != s {
			t.Errorf("%08x doesn't come back", s)
		}
	}
	for k := range 32 {
		try(1 << k)
		try(^uint32(1 << k))
		try(1<<k - 1)
	}
	s := uint32(1)
	for range 1000 {
		s = s*1664525 + 1013904223
		try(s)
	}
}

func TestClose(t *testing.T) {
	for _, c := range []struct {
		t    string
		want []byte
	}{
		{"", []byte{0xd8, 0xea, 0x82, 0xa2}},
		{"123456789", []byte("123456789\xe5\xb0\x8a\xc7")},
	} {
		if p := seal.Close([]byte(c.t)); !bytes.Equal(p, c.want) {
			t.Errorf("Close(%q) = % x, want % x", c.t, p, c.want)
		}
	}
	if p := seal.Close(nil); !bytes.Equal(p, []byte{0xd8, 0xea, 0x82, 0xa2}) {
		t.Errorf("Close(nil) = % x", p)
	}
}

func TestOpenTurnsCloseAbout(t *testing.T) {
	for _, size := range []int{0, 1, 2, 3, 4, 5, 63, 64, 65, 255, 256, 65536} {
		x := text(size)
		p := seal.Close(x)
		if len(p) != size+4 || !bytes.Equal(p[:size], x) {
			t.Errorf("Close of %d bytes has %d, or another text", size, len(p))
		}
		y, err := seal.Open(p)
		if !bytes.Equal(y, x) || err != api.OK {
			t.Errorf("Open of %d bytes: %d bytes, %d", size, len(y), err)
		}
	}
}

func refusesOpen(t *testing.T, p []byte, want api.Errno) {
	t.Helper()
	x, err := seal.Open(p)
	if len(x) != 0 || err != want {
		t.Errorf("Open(% x) = % x, %d, want error %d", p, x, err, want)
	}
}

func TestOpenShort(t *testing.T) {
	refusesOpen(t, nil, api.ErrShort)
	p := seal.Close(nil)
	for size := range 4 {
		refusesOpen(t, p[:size], api.ErrShort)
		refusesOpen(t, make([]byte, size), api.ErrShort)
	}
	refusesOpen(t, make([]byte, 4), api.ErrSum)
}

func TestOpenSum(t *testing.T) {
	for _, x := range []string{"", "a", "abc", "123456789"} {
		p := seal.Close([]byte(x))
		for i := range 8 * len(p) {
			q := bytes.Clone(p)
			q[i/8] ^= 1 << (i % 8)
			refusesOpen(t, q, api.ErrSum)
		}
		refusesOpen(t, append(bytes.Clone(p), 0), api.ErrSum)
		if len(p) > 4 {
			refusesOpen(t, p[:len(p)-1], api.ErrSum)
			refusesOpen(t, p[1:], api.ErrSum)
		}
	}
	bare := seal.Sum([]byte("abc"))
	refusesOpen(t, []byte{'a', 'b', 'c', byte(bare), byte(bare >> 8), byte(bare >> 16), byte(bare >> 24)}, api.ErrSum)
	m := seal.Mask(bare)
	refusesOpen(t, []byte{'a', 'b', 'c', byte(m >> 24), byte(m >> 16), byte(m >> 8), byte(m)}, api.ErrSum)
}

func TestMemory(t *testing.T) {
	x := roomy([]byte("abc"))
	p := seal.Close(x)
	shut := roomy(p)
	spoil(p)
	first, _ := seal.Open(shut)
	second, _ := seal.Open(shut)
	spoil(first)
	seal.Sum(x, shut)
	if !untouched(x, []byte("abc")) || !untouched(shut, seal.Close([]byte("abc"))) || string(second) != "abc" {
		t.Errorf("an answer shares memory: % x, % x, %q", x, shut, second)
	}
	again := seal.Close(x)
	spoil(x)
	spoil(shut)
	if string(again[:3]) != "abc" || string(second) != "abc" {
		t.Errorf("an answer follows its argument: %q, %q", again, second)
	}
}
