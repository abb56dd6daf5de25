package reel_test

import (
	"bytes"
	"hash/crc32"
	"math"
	"math/bits"
	"slices"
	"testing"

	"bartizan/api"
	"bartizan/reel"
)

// text makes one of so many bytes, each unlike its neighbours.
func text(size int) []byte {
	p := make([]byte, size)
	for i := range p {
		p[i] = byte(i*31 + i>>8 + 1)
	}
	return p
}

// join makes one text of several.
func join(l ...[]byte) []byte {
	return slices.Concat(l...)
}

// sum is the masked sum of a piece, reckoned by the library.
func sum(kind byte, t []byte) uint32 {
	s := crc32.Checksum(join([]byte{kind}, t), crc32.MakeTable(crc32.Castagnoli))
	return bits.RotateLeft32(s, 17) + 0xa282ead8
}

// headed makes a piece with that sum and that size, right or not.
func headed(s uint32, size int, kind byte, t []byte) []byte {
	return join([]byte{byte(s), byte(s >> 8), byte(s >> 16), byte(s >> 24), byte(size), byte(size >> 8), kind}, t)
}

// piece makes a right piece.
func piece(kind byte, t []byte) []byte {
	return headed(sum(kind, t), len(t), kind, t)
}

// plainFrame makes what Frame is to make, byte by byte: whenever a block is
// full, or too full for a piece, the next one begins.
func plainFrame(at int, p []byte) []byte {
	var f, t []byte
	place := at % 64
	for place > 57 && place < 64 {
		f = append(f, 0)
		place++
	}
	place %= 64
	kind := byte(1)
	shut := func() {
		f = append(f, piece(kind, t)...)
		t = nil
	}
	place += 7
	for _, b := range p {
		if place == 64 {
			if kind == 1 {
				kind = 2
			} else {
				kind = 3
			}
			shut()
			place = 7
		}
		t = append(t, b)
		place++
	}
	if kind != 1 {
		kind = 4
	}
	shut()
	return f
}

// reelOf makes a reel of records of these sizes, and tells where each of them ends.
func reelOf(t *testing.T, sizes ...int) (p []byte, records [][]byte, ends []int) {
	t.Helper()
	for i, n := range sizes {
		r := text(n + i)[i:]
		f, err := reel.Frame(len(p), r)
		if err != api.OK {
			t.Fatal(err)
		}
		p = append(p, f...)
		records = append(records, r)
		ends = append(ends, len(p))
	}
	return p, records, ends
}

// reads asks for the records of a reel, and for the place behind them.
func reads(t *testing.T, p []byte, want [][]byte, place int) {
	t.Helper()
	l, n := reel.Read(p)
	if !slices.EqualFunc(l, want, bytes.Equal) || n != place {
		t.Errorf("Read of %d bytes: %d records up to %d, want %d up to %d", len(p), len(l), n, len(want), place)
	}
}

func TestFrameExamples(t *testing.T) {
	f, err := reel.Frame(0, []byte("ab"))
	if err != api.OK || len(f) != 9 || !bytes.Equal(f, join(f[:4], []byte("\x02\x00\x01ab"))) {
		t.Errorf("Frame(0, ab) = % x, %d", f, err)
	}
	if !bytes.Equal(f, piece(1, []byte("ab"))) {
		t.Errorf("Frame(0, ab) has another sum: % x", f)
	}
	f, err = reel.Frame(60, []byte("x"))
	if err != api.OK || !bytes.Equal(f, join(make([]byte, 4), piece(1, []byte("x")))) {
		t.Errorf("Frame(60, x) = % x, %d", f, err)
	}
}

// The bytes themselves, so that no sum of the test's own stands between.
func TestFrameOfKnownBytes(t *testing.T) {
	for _, c := range []struct {
		p    []byte
		want string
	}{
		{nil, "\x05\x2b\x28\x43\x00\x00\x01"},
		{[]byte("ab"), "\xa4\x98\x44\x82\x02\x00\x01ab"},
	} {
		if f, err := reel.Frame(0, c.p); string(f) != c.want || err != api.OK {
			t.Errorf("Frame(0, %q) = % x, %d, want % x", c.p, f, err, c.want)
		}
	}
}

func TestFrameAtEveryPlaceOfABlock(t *testing.T) {
	for at := range 2*64 + 1 {
		for size := range 200 {
			p := text(size)
			if f, err := reel.Frame(at, p); !bytes.Equal(f, plainFrame(at, p)) || err != api.OK {
				t.Errorf("Frame(%d, %d bytes) = % x, %d", at, size, f, err)
			}
		}
	}
}

func TestFrameAtEdges(t *testing.T) {
	x := text(200)
	for _, c := range []struct {
		at   int
		p    []byte
		want []byte
	}{
		{0, nil, piece(1, nil)},
		{0, x[:56], piece(1, x[:56])},
		{0, x[:57], piece(1, x[:57])},
		{0, x[:58], join(piece(2, x[:57]), piece(4, x[57:58]))},
		{0, x[:114], join(piece(2, x[:57]), piece(4, x[57:114]))},
		{0, x[:115], join(piece(2, x[:57]), piece(3, x[57:114]), piece(4, x[114:115]))},
		{56, x[:1], piece(1, x[:1])},
		{56, x[:2], join(piece(2, x[:1]), piece(4, x[1:2]))},
		// Seven bytes are room for a piece that has none of its own.
		{57, nil, piece(1, nil)},
		{57, x[:1], join(piece(2, nil), piece(4, x[:1]))},
		{57, x[:57], join(piece(2, nil), piece(4, x[:57]))},
		{57, x[:58], join(piece(2, nil), piece(3, x[:57]), piece(4, x[57:58]))},
		{58, nil, join(make([]byte, 6), piece(1, nil))},
		{58, x[:58], join(make([]byte, 6), piece(2, x[:57]), piece(4, x[57:58]))},
		{63, x[:1], join(make([]byte, 1), piece(1, x[:1]))},
		{64, x[:57], piece(1, x[:57])},
		{math.MaxInt, x[:1], join(make([]byte, 1), piece(1, x[:1]))},
		{math.MaxInt - 6, x[:1], join(piece(2, nil), piece(4, x[:1]))},
		{math.MaxInt - 5, x[:1], join(make([]byte, 6), piece(1, x[:1]))},
	} {
		if f, err := reel.Frame(c.at, c.p); !bytes.Equal(f, c.want) || err != api.OK {
			t.Errorf("Frame(%d, %d bytes) = % x, %d, want % x", c.at, len(c.p), f, err, c.want)
		}
	}
}

func TestFrameErrors(t *testing.T) {
	long := text(api.MaxRecord + 1)
	for _, c := range []struct {
		at   int
		p    []byte
		want api.Errno
	}{
		{-1, nil, api.ErrArg},
		{-64, []byte("a"), api.ErrArg},
		{math.MinInt, []byte("a"), api.ErrArg},
		{-1, long, api.ErrArg},
		{0, long, api.ErrLong},
		{60, long, api.ErrLong},
		{math.MaxInt, text(2 * api.MaxRecord), api.ErrLong},
	} {
		if f, err := reel.Frame(c.at, c.p); len(f) != 0 || err != c.want {
			t.Errorf("Frame(%d, %d bytes) = %d bytes, %d, want error %d", c.at, len(c.p), len(f), err, c.want)
		}
	}
	for _, at := range []int{0, 1, 57, 58, 63} {
		p := text(api.MaxRecord)
		if f, err := reel.Frame(at, p); !bytes.Equal(f, plainFrame(at, p)) || err != api.OK {
			t.Errorf("Frame(%d) of the longest: %d bytes, %d", at, len(f), err)
		}
	}
}

func TestReadOfNone(t *testing.T) {
	reads(t, nil, nil, 0)
	reads(t, []byte{}, nil, 0)
	for size := range 200 {
		reads(t, make([]byte, size), nil, 0)
		reads(t, text(size), nil, 0)
	}
}

func TestReadTurnsFrameAbout(t *testing.T) {
	for _, sizes := range [][]int{
		{0}, {1}, {2, 100, 0, 51, 3}, {57, 57}, {56, 0}, {50, 0, 0}, {50, 1}, {50, 57}, {50, 58},
		{51, 0, 1}, {0, 0, 0, 0, 0, 0, 0, 0, 0, 0}, {1000, 1, 1000}, {api.MaxRecord, 0, api.MaxRecord}, {3, api.MaxRecord},
	} {
		p, records, _ := reelOf(t, sizes...)
		reads(t, p, records, len(p))
	}
	for first := range 130 {
		for second := range 130 {
			p, records, _ := reelOf(t, first, second, 5)
			reads(t, p, records, len(p))
		}
	}
}

// manyReels tells of sizes that leave each count of bytes at a block's end.
func manyReels() [][]int {
	all := [][]int{{2, 100, 0, 51, 3}, {57, 0, 57, 1}, {130, 130, 130}, {0, 0, 0, 0, 0, 0, 0, 0, 0, 0, 0}}
	for n := range 20 {
		all = append(all, []int{40 + n, 3, 70})
	}
	return all
}

// whatIsWhole tells which records lie whole ahead of the place at, and where the last of them ends.
func whatIsWhole(records [][]byte, ends []int, at int) ([][]byte, int) {
	last := 0
	n := 0
	for n < len(ends) && ends[n] <= at {
		last = ends[n]
		n++
	}
	return records[:n], last
}

func TestReadOfACutReel(t *testing.T) {
	for _, sizes := range manyReels() {
		p, records, ends := reelOf(t, sizes...)
		for cut := range p {
			want, place := whatIsWhole(records, ends, cut)
			// Only noughts are left up to the block's end: nothing is missing.
			if cut%64 == 0 && cut-place < 7 {
				place = cut
			}
			reads(t, p[:cut], want, place)
		}
	}
}

func TestReadOfAChangedReel(t *testing.T) {
	for _, sizes := range manyReels() {
		p, records, ends := reelOf(t, sizes...)
		for i := range 8 * len(p) {
			q := bytes.Clone(p)
			q[i/8] ^= 1 << (i % 8)
			want, place := whatIsWhole(records, ends, i/8)
			reads(t, q, want, place)
		}
	}
}

func TestReadOfAReelThatLacksBytesWithin(t *testing.T) {
	p, records, ends := reelOf(t, 2, 100, 0, 51, 3, 60)
	for i := range p {
		for n := 1; i+n < len(p) && n < 70; n++ {
			q := join(p[:i], p[i+n:])
			l, place := reel.Read(q)
			want, least := whatIsWhole(records, ends, i)
			if len(l) < len(want) || place < least || !slices.EqualFunc(l[:len(want)], want, bytes.Equal) {
				t.Errorf("%d bytes out of the place %d: %d records up to %d", n, i, len(l), place)
			}
			if n < 10 || n > 60 {
				readsPlainly(t, q)
			}
		}
	}
}

func TestWhateverStandsBehindChangesNothing(t *testing.T) {
	for _, sizes := range manyReels() {
		p, records, _ := reelOf(t, sizes...)
		for _, behind := range [][]byte{{0}, {1}, make([]byte, 7), make([]byte, 64), make([]byte, 200), text(6), text(64), text(1000), p, piece(3, []byte("ab")), piece(4, nil)} {
			l, n := reel.Read(join(p, behind))
			if len(l) < len(records) || n < len(p) || !slices.EqualFunc(l[:len(records)], records, bytes.Equal) {
				t.Errorf("%v with %d bytes behind: %d records up to %d", sizes, len(behind), len(l), n)
			}
		}
	}
}

func TestReadOfNoughtsUpToABlocksEnd(t *testing.T) {
	for free := range 20 {
		// The record ends where so many bytes of its block are free.
		r := text(57 - free)
		p := piece(1, r)
		all := [][]byte{r}
		for n := range 80 {
			want := 64 - free
			if free < 7 && n == free {
				want = 64
			}
			reads(t, join(p, make([]byte, n)), all, want)
		}
		for i := range min(free, 7) {
			q := join(p, make([]byte, free))
			q[64-free+i] = 1
			reads(t, q, all, 64-free)
			reads(t, join(q, piece(1, []byte("x"))), all, 64-free)
		}
	}
}

func TestReadOfWrongNoughtsAheadOfARecord(t *testing.T) {
	r, x := text(53), []byte("x")
	p := piece(1, r)
	reads(t, join(p, make([]byte, 4), piece(1, x)), [][]byte{r, x}, 72)
	reads(t, join(p, make([]byte, 3), piece(1, x)), [][]byte{r}, 60)
	reads(t, join(p, make([]byte, 5), piece(1, x)), [][]byte{r}, 60)
	reads(t, join(p, piece(1, x)), [][]byte{r}, 60)
	reads(t, join(p, []byte{0, 0, 0, 9}, piece(1, x)), [][]byte{r}, 60)
	reads(t, join(p, make([]byte, 4), piece(1, x)[:7]), [][]byte{r}, 60)
	// Where a piece fits, it may not wait for the next block.
	reads(t, join(piece(1, text(50)), make([]byte, 7), piece(1, x)), [][]byte{text(50)}, 57)
	reads(t, join(make([]byte, 64), piece(1, x)), nil, 0)
}

func TestReadOfPiecesThatFrameDoesNotMake(t *testing.T) {
	full, x := text(57), []byte("x")
	for i, p := range [][]byte{
		// Kinds out of their order.
		piece(2, full),
		piece(3, x),
		piece(4, x),
		piece(4, full),
		join(piece(3, full), piece(4, x)),
		join(piece(3, full), piece(1, x)),
		join(piece(2, full), piece(1, x)),
		join(piece(2, full), piece(2, x)),
		join(piece(2, full), piece(2, full), piece(4, x)),
		join(piece(2, full), piece(3, full), piece(3, full)),
		join(piece(2, full), piece(3, full), piece(1, x)),
		join(piece(2, full), piece(3, full), piece(2, full), piece(4, x)),
		// Pieces that are shorter than they must be.
		join(piece(2, x), piece(4, x)),
		join(piece(2, nil), piece(4, nil)),
		join(piece(2, nil), piece(4, x)),
		join(piece(2, full[:56]), []byte{0}, piece(4, x)),
		join(piece(2, full[:50]), piece(4, nil)),
		join(piece(2, full[:50]), piece(3, nil), piece(4, x)),
		join(piece(2, full), piece(3, x), piece(4, x)),
		join(piece(2, full), piece(3, full[:50]), piece(3, nil), piece(4, x)),
		join(piece(2, full), piece(3, full[:56]), []byte{0}, piece(4, x)),
		// A record that had ended with the block ahead.
		join(piece(2, full), piece(4, nil)),
		join(piece(2, full), piece(3, full), piece(4, nil)),
		// Noughts where a record that has begun goes on.
		join(piece(2, full), make([]byte, 64), piece(4, x)),
	} {
		if l, n := reel.Read(p); len(l) != 0 || n != 0 {
			t.Errorf("%d: %q, %d", i, l, n)
		}
		first := piece(1, full)
		reads(t, join(first, p), [][]byte{full}, 64)
	}
	ahead := piece(1, text(50))
	reads(t, join(ahead, piece(2, nil), piece(4, nil)), [][]byte{text(50)}, 57)
	reads(t, join(ahead, piece(2, nil), piece(3, nil), piece(4, x)), [][]byte{text(50)}, 57)
	reads(t, join(ahead, piece(2, nil), piece(4, x)), [][]byte{text(50), x}, 72)
	reads(t, join(ahead, piece(1, nil)), [][]byte{text(50), nil}, 64)
}

// chain makes a record of right pieces, however long it is.
func chain(p []byte) []byte {
	return plainFrame(0, p)
}

func TestReadOfTooLongARecord(t *testing.T) {
	most := text(api.MaxRecord)
	reads(t, chain(most), [][]byte{most}, len(chain(most)))
	for _, n := range []int{1, 14, 57, 64, 1000, api.MaxRecord} {
		reads(t, chain(text(api.MaxRecord+n)), nil, 0)
	}
}

// strip takes the first n bytes of a record out of p that would stand there behind at bytes; false: there are fewer.
func strip(p []byte, at, n int) ([]byte, bool) {
	var r []byte
	if at%64 > 57 {
		at += 64 - at%64
	}
	at += 7
	for len(r) < n {
		if at%64 == 0 {
			at += 7
		}
		if at >= len(p) {
			return nil, false
		}
		r = append(r, p[at])
		at++
	}
	return r, true
}

// plainRead does what Read is to do: of records of every size it looks for the one whose frame stands there.
func plainRead(p []byte) ([][]byte, int) {
	var l [][]byte
	at := 0
	for n := 0; ; n++ {
		r, ok := strip(p, at, n)
		if !ok {
			break
		}
		if f := plainFrame(at, r); bytes.HasPrefix(p[at:], f) {
			l = append(l, r)
			at += len(f)
			n = -1
		}
	}
	if at%64 > 57 && len(p)%64 == 0 && len(p)-at < 7 && bytes.Count(p[at:], []byte{0}) == len(p)-at {
		at = len(p)
	}
	return l, at
}

// readsPlainly asks that Read answers what plainRead does.
func readsPlainly(t *testing.T, p []byte) {
	t.Helper()
	l, n := plainRead(p)
	reads(t, p, l, n)
}

// Reels of right pieces, noughts and other bytes at pleasure.
func TestReadOfManyPieces(t *testing.T) {
	seed := uint32(1)
	next := func(n int) int {
		seed = seed*1664525 + 1013904223
		return int(seed>>8) % n
	}
	for range 3000 {
		var p []byte
		for range next(6) + 1 {
			room := 64 - len(p)%64 - 7
			switch {
			case room < 0:
				p = append(p, make([]byte, room+7)...)
			case next(20) == 0:
				p = append(p, text(next(8))...)
			case next(3) > 0:
				p = append(p, piece(byte(1+next(4)), text(room))...)
			default:
				p = append(p, piece(byte(1+next(4)), text(next(room+1)))...)
			}
		}
		readsPlainly(t, p)
	}
}
