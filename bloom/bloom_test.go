package bloom_test

import (
	"bytes"
	"hash/crc32"
	"hash/fnv"
	"math"
	"math/big"
	"slices"
	"strconv"
	"testing"

	"bartizan/bloom"
)

// keys makes a list of texts.
func keys(l ...string) [][]byte {
	var all [][]byte
	for _, k := range l {
		all = append(all, []byte(k))
	}
	return all
}

// numbered makes so many keys, no two alike.
func numbered(count int) [][]byte {
	var all [][]byte
	for i := range count {
		all = append(all, []byte("key"+strconv.Itoa(i)))
	}
	return all
}

// spots reckons a key's probes by the chapter's words, in numbers without a bound.
func spots(key []byte, probes, bits int) []int {
	sum := fnv.New32a()
	sum.Write(key)
	h := big.NewInt(int64(sum.Sum32()))
	d := big.NewInt(int64(crc32.Checksum(key, crc32.MakeTable(crc32.Castagnoli))))
	if d.Bit(0) == 0 {
		d.Add(d, big.NewInt(1))
	}
	var all []int
	for i := range probes {
		k := new(big.Int).Mul(big.NewInt(int64(i)), d)
		k.Add(k, h)
		k.Mod(k, big.NewInt(1<<32))
		k.Mod(k, big.NewInt(int64(bits)))
		all = append(all, int(k.Int64()))
	}
	return all
}

// filterOf builds one in the plainest way: bit by bit.
func filterOf(probes, size int, l [][]byte) []byte {
	set := make([]bool, 8*size)
	for _, key := range l {
		for _, k := range spots(key, probes, 8*size) {
			set[k] = true
		}
	}
	filter := make([]byte, size)
	for k, on := range set {
		if on {
			filter[k/8] += byte(math.Pow(2, float64(k%8)))
		}
	}
	return append(filter, byte(probes))
}

func TestProbes(t *testing.T) {
	for _, c := range []struct{ bits, want int }{
		{math.MinInt, 1}, {-100, 1}, {-1, 1}, {0, 1}, {1, 1}, {2, 1}, {3, 2}, {4, 2}, {5, 3}, {9, 6}, {10, 6},
		{11, 7}, {20, 13}, {29, 20}, {42, 28}, {43, 29}, {44, 30}, {45, 30}, {99, 30}, {100, 30}, {101, 30}, {1000, 30},
		{math.MaxInt, 30},
	} {
		if n := bloom.Probes(c.bits); n != c.want {
			t.Errorf("Probes(%d) = %d, want %d", c.bits, n, c.want)
		}
	}
}

func TestTheExamples(t *testing.T) {
	if n := bloom.Probes(10); n != 6 {
		t.Errorf("Probes(10) = %d", n)
	}
	f := bloom.Build(10, keys("a", "b")...)
	if len(f) != 9 || !bloom.Has(f, []byte("a")) || !bloom.Has(f, []byte("b")) {
		t.Errorf("Build(10, a, b) = % x", f)
	}
}

// The bytes were reckoned apart from this code, by the words of the chapter.
func TestBuildOfKnown(t *testing.T) {
	for _, c := range []struct {
		bits int
		keys [][]byte
		want string
	}{
		{10, nil, "\x00\x00\x00\x00\x00\x00\x00\x00\x06"},
		{10, keys(""), "\xe0\x07\x00\x00\x00\x00\x00\x00\x06"},
		{1, keys(""), "\x20\x00\x00\x00\x00\x00\x00\x00\x01"},
		{0, keys("a"), "\x00\x00\x00\x00\x00\x10\x00\x00\x01"},
		{10, keys("a"), "\x00\x40\x00\x20\x02\x10\x01\x80\x06"},
		{10, keys("a", "a"), "\x00\x40\x00\x20\x02\x10\x01\x80\x06"},
		{10, keys("a", "b"), "\x00\x40\x00\x20\x22\x94\x11\xc2\x06"},
		{32, keys("a", "b"), "\x99\xeb\xc4\x74\x62\xbe\x33\xd7\x16"},
		{33, keys("a", "b"), "\xf6\xfe\xef\xb5\x43\x00\x10\x31\x63\x16"},
		{10, numbered(7), "\xb8\x57\x61\xa6\xd7\xa8\x0c\xc8\x61\x06"},
		{43, keys("\x00"), "\x33\x23\x66\xc6\xcc\x8c\x99\x19\x1d"},
		{44, keys("\xff\x00"), "\x33\x66\x66\xcc\xcc\x98\x99\x31\x1e"},
		{100, keys("abc"), "\x13\x92\x21\x09\x90\x00\x49\x88\x04\x4c\xc2\x26\x64\x1e"},
		{1000, keys("abc"), "\x13\x92\x21\x09\x90\x00\x49\x88\x04\x4c\xc2\x26\x64\x1e"},
	} {
		if f := bloom.Build(c.bits, c.keys...); string(f) != c.want {
			t.Errorf("Build(%d, %q) = % x, want % x", c.bits, c.keys, f, c.want)
		}
	}
}

func TestSizes(t *testing.T) {
	for _, c := range []struct{ bits, keys, want int }{
		{math.MinInt, 0, 8}, {10, 0, 8}, {math.MaxInt, 0, 8},
		{1, 1, 8}, {1, 63, 8}, {1, 64, 8}, {1, 65, 9}, {0, 65, 9}, {-7, 65, 9}, {math.MinInt, 72, 9}, {1, 73, 10},
		{10, 6, 8}, {10, 7, 9}, {10, 8, 10}, {10, 1000, 1250}, {11, 8, 11}, {11, 9, 13},
		{64, 1, 8}, {65, 1, 9}, {99, 1, 13}, {100, 1, 13}, {101, 1, 13}, {100, 2, 25}, {math.MaxInt, 2, 25},
	} {
		f := bloom.Build(c.bits, numbered(c.keys)...)
		if len(f) != c.want+1 {
			t.Errorf("Build(%d, %d keys) has %d bytes, want %d", c.bits, c.keys, len(f), c.want+1)
		}
		if n := f[len(f)-1]; int(n) != bloom.Probes(c.bits) {
			t.Errorf("Build(%d, %d keys) has %d probes", c.bits, c.keys, n)
		}
	}
	// A key that comes twice counts twice.
	if f := bloom.Build(64, keys("a", "a")...); len(f) != 17 {
		t.Errorf("Build(64, a, a) has %d bytes", len(f))
	}
}

// Against the plainest reckoning: all of the keys' bits, and no other.
func TestBuildIsExact(t *testing.T) {
	odd := keys("", "\x00", "\xff\xff\xff", string(bytes.Repeat([]byte("long"), 300)), "a", "a")
	for bits := 1; bits <= 100; bits++ {
		for _, l := range [][][]byte{nil, odd, numbered(1), numbered(13), numbered(40)} {
			size := max((bits*len(l)+7)/8, 8)
			want := filterOf(bloom.Probes(bits), size, l)
			if f := bloom.Build(bits, l...); !bytes.Equal(f, want) {
				t.Fatalf("Build(%d, %q) = % x, want % x", bits, l, f, want)
			}
		}
	}
}

func TestWhateverWasBuiltInIsThere(t *testing.T) {
	for _, bits := range []int{math.MinInt, -1, 0, 1, 2, 7, 10, 43, 44, 100, 101, math.MaxInt} {
		for _, count := range []int{1, 2, 64, 65, 500} {
			l := append(numbered(count), nil, []byte{0}, bytes.Repeat([]byte{0xff}, 2000))
			f := bloom.Build(bits, l...)
			for _, key := range l {
				if !bloom.Has(f, key) {
					t.Errorf("Build(%d, %d keys) hasn't % x", bits, count, key)
				}
			}
		}
	}
}

func TestMostOthersAreNotThere(t *testing.T) {
	l := numbered(1200)
	f := bloom.Build(10, l[:200]...)
	hits := 0
	for _, key := range l[200:] {
		if bloom.Has(f, key) {
			hits++
		}
	}
	if hits > 50 {
		t.Errorf("%d of 1000 others are there", hits)
	}
	if bloom.Has(bloom.Build(10), nil) || bloom.Has(bloom.Build(10), []byte("a")) {
		t.Errorf("a filter of no keys has one")
	}
}

// What is no filter may have everything.
func TestHasOfNoFilter(t *testing.T) {
	for _, key := range keys("", "a", "foobar") {
		for size := range 9 {
			for _, last := range []byte{0, 1, 6, 30, 31, 255} {
				p := make([]byte, size)
				if size > 0 {
					p[size-1] = last
				}
				if !bloom.Has(p, key) {
					t.Errorf("Has(% x, %q) is false", p, key)
				}
			}
		}
		for last := range 256 {
			for _, size := range []int{9, 10, 50} {
				p := make([]byte, size)
				p[size-1] = byte(last)
				if got, want := bloom.Has(p, key), last < 1 || last > 30; got != want {
					t.Errorf("Has(% x, %q) = %t", p, key, got)
				}
			}
		}
	}
	if !bloom.Has(nil, nil) {
		t.Errorf("Has(nil, nil) is false")
	}
}

// Each single probe counts, and no other bit does.
func TestHasAsksJustTheProbes(t *testing.T) {
	for _, size := range []int{8, 9, 11, 100} {
		for _, probes := range []int{1, 2, 6, 29, 30} {
			for _, key := range keys("", "a", "foobar", "\x00\xff") {
				mine := filterOf(probes, size, [][]byte{key})
				if !bloom.Has(mine, key) {
					t.Fatalf("Has(% x, %q) is false", mine, key)
				}
				asked := spots(key, probes, 8*size)
				for k := range 8 * size {
					full := append(bytes.Repeat([]byte{0xff}, size), byte(probes))
					full[k/8] &^= 1 << (k % 8)
					if got, want := bloom.Has(full, key), !slices.Contains(asked, k); got != want {
						t.Fatalf("without bit %d of %d, %d probes: Has(%q) = %t", k, 8*size, probes, key, got)
					}
				}
			}
		}
	}
}

// Bits beyond what 32 can number: the filter is great, but few of its bytes are touched.
func TestHasOfAGreatFilter(t *testing.T) {
	for _, size := range []int{1 << 29, 1<<29 + 1} {
		f := make([]byte, size+1)
		f[size] = 3
		for _, key := range keys("", "a", "foobar") {
			if bloom.Has(f, key) {
				t.Errorf("an empty filter of %d bytes has %q", size, key)
			}
			for _, k := range spots(key, 3, 8*size) {
				f[k/8] |= 1 << (k % 8)
			}
			if !bloom.Has(f, key) {
				t.Errorf("a filter of %d bytes hasn't %q", size, key)
			}
		}
	}
}

// roomy copies p in front of spare room whose bytes are known.
func roomy(p []byte) []byte {
	q := bytes.Repeat([]byte{0xa5}, len(p)+16)
	copy(q, p)
	return q[:len(p)]
}

// untouched tells whether q, which roomy made of p, is as it was.
func untouched(q, p []byte) bool {
	return bytes.Equal(q[:len(p)+16], append(bytes.Clone(p), bytes.Repeat([]byte{0xa5}, 16)...))
}

func TestMemory(t *testing.T) {
	want := bloom.Build(10, keys("a", "bc")...)
	a, b := roomy([]byte("a")), roomy([]byte("bc"))
	room := [][]byte{a, b, []byte("behind")}
	f := bloom.Build(10, room[:2]...)
	filter := roomy(f)
	if !bytes.Equal(f, want) || !bloom.Has(filter, a) {
		t.Errorf("Build = % x, want % x", f, want)
	}
	if !untouched(a, []byte("a")) || !untouched(b, []byte("bc")) || string(room[2]) != "behind" || !untouched(filter, want) {
		t.Errorf("an argument has changed: % x, % x, %q, % x", a, b, room, filter)
	}
	again := bloom.Build(10, a, b)
	clear(f[:cap(f)])
	if !bytes.Equal(again, want) || !bytes.Equal(bloom.Build(10, a, b), want) {
		t.Errorf("two answers share memory: % x", again)
	}
}
