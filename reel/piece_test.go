package reel_test

import (
	"bytes"
	"math"
	"slices"
	"testing"

	"bartizan/api"
	"bartizan/reel"
)

// takes asks for a piece.
func takes(t *testing.T, p []byte, at int, kind byte, want []byte, behind int) {
	t.Helper()
	k, x, n, ok := reel.Piece(p, at)
	if k != kind || !bytes.Equal(x, want) || n != behind || !ok {
		t.Errorf("Piece(% x, %d) = %d, % x, %d, %t, want %d, % x, %d", p, at, k, x, n, ok, kind, want, behind)
	}
}

// takesNone asks that there is no piece, and that nothing else is told.
func takesNone(t *testing.T, p []byte, at int) {
	t.Helper()
	if k, x, n, ok := reel.Piece(p, at); k != 0 || len(x) != 0 || n != 0 || ok {
		t.Errorf("Piece(% x, %d) = %d, % x, %d, %t", p, at, k, x, n, ok)
	}
}

func TestPieceOfEachKind(t *testing.T) {
	for kind := range 256 {
		p := piece(byte(kind), []byte("ab"))
		if kind >= 1 && kind <= 4 {
			takes(t, p, 0, byte(kind), []byte("ab"), 9)
		} else {
			takesNone(t, p, 0)
		}
	}
}

func TestPieceOfEachSize(t *testing.T) {
	for at := range 64 {
		for size := range 70 {
			// What lies behind is long enough: the block's end alone counts.
			p := join(make([]byte, at), piece(3, text(size)), text(100))
			if at+7+size <= 64 {
				takes(t, p, at, 3, text(size), at+7+size)
				takes(t, p[:at+7+size], at, 3, text(size), at+7+size)
			} else {
				takesNone(t, p, at)
			}
		}
	}
	for _, size := range []int{255, 256, 257, 65535} {
		takesNone(t, piece(1, text(size)), 0)
	}
	// A size whose upper byte counts: its lower one alone would do.
	x := text(2)
	takesNone(t, headed(sum(1, x), 256+2, 1, join(x, text(300))), 0)
	takesNone(t, headed(sum(1, x), 2<<8, 1, x), 0)
}

func TestPieceOfCutBytes(t *testing.T) {
	for _, size := range []int{0, 1, 2, 57} {
		p := piece(1, text(size))
		for n := range p {
			takesNone(t, p[:n], 0)
		}
		p = join(text(64), p)
		for n := range len(p) - 64 {
			takesNone(t, p[:64+n], 64)
		}
		takes(t, p, 64, 1, text(size), len(p))
	}
}

func TestPieceAtWrongPlaces(t *testing.T) {
	p := join(piece(2, text(57)), piece(4, []byte("ab")))
	for _, at := range []int{-1, -7, -64, math.MinInt, math.MinInt + 1, len(p), len(p) + 1, len(p) - 1, 1000, math.MaxInt, math.MaxInt - 64} {
		takesNone(t, p, at)
		takesNone(t, nil, at)
	}
	takesNone(t, nil, 0)
	for at := range p {
		switch at {
		case 0:
			takes(t, p, at, 2, text(57), 64)
		case 64:
			takes(t, p, at, 4, []byte("ab"), len(p))
		default:
			takesNone(t, p, at)
		}
	}
	// It neither passes over noughts nor asks what stands ahead.
	q := join(piece(1, text(53)), make([]byte, 4), piece(3, nil), piece(3, []byte("x")))
	takesNone(t, q, 60)
	takes(t, q, 64, 3, nil, 71)
	takes(t, q, 71, 3, []byte("x"), 79)
}

func TestPieceOfChangedBytes(t *testing.T) {
	for _, size := range []int{0, 1, 2, 57} {
		p := piece(2, text(size))
		for i := range 8 * len(p) {
			q := bytes.Clone(p)
			q[i/8] ^= 1 << (i % 8)
			takesNone(t, join(q, make([]byte, 128)), 0)
		}
	}
}

func TestPieceOfAnotherSum(t *testing.T) {
	x := []byte("ab")
	s := sum(1, x)
	takes(t, headed(s, 2, 1, x), 0, 1, x, 9)
	takesNone(t, headed(s>>24|s>>8&0xff00|s<<8&0xff0000|s<<24, 2, 1, x), 0)
	// Sums of the bytes alone, of the kind behind them, of the size too, and not masked.
	takesNone(t, headed(sum('a', x[1:]), 2, 1, x), 0)
	takesNone(t, headed(sum('a', []byte("b\x01")), 2, 1, x), 0)
	takesNone(t, headed(sum(2, []byte("\x00\x01ab")), 2, 1, x), 0)
	takesNone(t, headed((s-0xa282ead8)<<15|(s-0xa282ead8)>>17, 2, 1, x), 0)
	takesNone(t, headed(sum(2, x), 2, 1, x), 0)
	takesNone(t, headed(0, 2, 1, x), 0)
	takesNone(t, make([]byte, 64), 0)
}

// Piece by piece a reel is gone through from its front.
func TestPiecesOfAReel(t *testing.T) {
	p, records, _ := reelOf(t, 2, 100, 0, 51, 3)
	at := 0
	for _, want := range records {
		if 64-at%64 < 7 {
			at += 64 - at%64
		}
		var r []byte
		for {
			kind, x, n, ok := reel.Piece(p, at)
			if !ok {
				t.Fatalf("no piece at %d", at)
			}
			r = append(r, x...)
			at = n
			if kind == 1 || kind == 4 {
				break
			}
		}
		if !bytes.Equal(r, want) {
			t.Errorf("% x, want % x", r, want)
		}
	}
	if at != len(p) {
		t.Errorf("%d, want %d", at, len(p))
	}
}

// roomy copies p in front of spare room whose bytes are known.
func roomy(p []byte) []byte {
	q := bytes.Repeat([]byte{0xa5}, len(p)+100)
	copy(q, p)
	return q[:len(p)]
}

// untouched tells whether q, which roomy made of p, is as it was.
func untouched(q, p []byte) bool {
	return bytes.Equal(q[:len(p)+100], append(bytes.Clone(p), bytes.Repeat([]byte{0xa5}, 100)...))
}

// spoil writes over an answer and its spare room.
func spoil(p []byte) {
	p = p[:cap(p)]
	for i := range p {
		p[i] = 0x5a
	}
}

func TestFrameMemory(t *testing.T) {
	for _, size := range []int{0, 2, 57, 58, 200} {
		was := text(size)
		p := roomy(was)
		first, _ := reel.Frame(60, p)
		second, _ := reel.Frame(60, p)
		spoil(first)
		if !untouched(p, was) {
			t.Errorf("an answer shares memory: % x", p)
		}
		spoil(p)
		if !bytes.Equal(second, plainFrame(60, was)) {
			t.Errorf("an answer follows its argument, or an earlier one: % x", second)
		}
	}
}

func TestFrameOfTooMuchTouchesNothing(t *testing.T) {
	was := text(api.MaxRecord + 1)
	p := roomy(was)
	reel.Frame(0, p)
	reel.Frame(-1, p)
	if !untouched(p, was) {
		t.Error("it was changed")
	}
}

func TestReadMemory(t *testing.T) {
	was, records, _ := reelOf(t, 2, 100, 0, 51, 3)
	p := roomy(was)
	first, _ := reel.Read(p)
	second, _ := reel.Read(p)
	for i := range first {
		spoil(first[i])
	}
	clear(first[:cap(first)])
	if !untouched(p, was) {
		t.Errorf("an answer shares memory: % x", p)
	}
	spoil(p)
	if !slices.EqualFunc(second, records, bytes.Equal) {
		t.Errorf("an answer follows its argument, or an earlier one: %q", second)
	}
}

func TestRecordsOfOneAnswerAreApart(t *testing.T) {
	p, records, _ := reelOf(t, 2, 100, 0, 51, 3)
	for i := range records {
		l, _ := reel.Read(p)
		spoil(l[i])
		l[i] = records[i]
		if !slices.EqualFunc(l, records, bytes.Equal) {
			t.Errorf("record %d shares memory: %q", i, l)
		}
	}
}

func TestReadKeepsToTheLength(t *testing.T) {
	was, records, ends := reelOf(t, 2, 100, 3)
	// The spare room has the rest of the reel, which isn't handed in.
	reads(t, was[:ends[1]], records[:2], ends[1])
	reads(t, was[:ends[1]-1], records[:1], ends[0])
	takesNone(t, was[:8], 0)
	takesNone(t, was[:6], 0)
}

func TestPieceMemory(t *testing.T) {
	for _, size := range []int{0, 2, 57} {
		was := piece(2, text(size))
		p := roomy(was)
		_, first, _, _ := reel.Piece(p, 0)
		_, second, _, _ := reel.Piece(p, 0)
		spoil(first)
		if !untouched(p, was) {
			t.Errorf("an answer shares memory: % x", p)
		}
		spoil(p)
		if !bytes.Equal(second, text(size)) {
			t.Errorf("an answer follows its argument, or an earlier one: % x", second)
		}
	}
}
