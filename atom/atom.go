// Package atom is layer 1: see shared/doc/01-atom.md.
package atom

import (
	"bytes"
	"math/bits"

	"bartizan/api"
)

// The greatest numbers that have one, two and three bytes.
const (
	mostOne   = 240
	mostTwo   = 2287
	mostThree = 67823
)

// The first bytes: up to topOne it is the number itself, up to topTwo there is
// one more byte, threeMark stands ahead of two more, and ahead of the bytes of
// a wide number stands wideMark and how many these are.
const (
	topOne    = 240
	topTwo    = 248
	threeMark = 249
	wideMark  = 247
)

// Num answers the number's bytes.
func Num(n uint64) []byte {
	switch {
	case n <= mostOne:
		return []byte{byte(n)}
	case n <= mostTwo:
		n -= mostOne
		return []byte{byte(topOne + 1 + n/256), byte(n)}
	case n <= mostThree:
		n -= mostTwo + 1
		return []byte{threeMark, byte(n >> 8), byte(n)}
	}
	return wide(n)
}

// wide answers the bytes of a number that is greater than mostThree, and so
// needs no fewer than three behind the first.
func wide(n uint64) []byte {
	size := (bits.Len64(n) + 7) / 8
	p := make([]byte, 1+size)
	p[0] = byte(wideMark + size)
	for i := size; i > 0; i-- {
		p[i] = byte(n)
		n >>= 8
	}
	return p
}

// Take answers the number in front, and what stands behind.
func Take(p []byte) (uint64, []byte, api.Errno) {
	n, size, err := front(p)
	if err != api.OK {
		return 0, nil, err
	}
	return n, fresh(p[size:]), api.OK
}

// front answers the number in front, and how many bytes it has.
func front(p []byte) (uint64, int, api.Errno) {
	if len(p) == 0 || len(p) < sizeBy(p[0]) {
		return 0, 0, api.ErrShort
	}
	size := sizeBy(p[0])
	n := decode(p[:size])
	// A number has one form only: in any other its bytes would not rise as it does.
	if !bytes.Equal(Num(n), p[:size]) {
		return 0, 0, api.ErrForm
	}
	return n, size, api.OK
}

// sizeBy tells by a number's first byte how many it has in all.
func sizeBy(first byte) int {
	switch {
	case first <= topOne:
		return 1
	case first <= topTwo:
		return 2
	case first == threeMark:
		return 3
	}
	return 1 + int(first) - wideMark
}

// decode answers the number for which the bytes stand, in whichever form.
func decode(p []byte) uint64 {
	first := uint64(p[0])
	tail := highFirst(p[1:])
	switch {
	case first <= topOne:
		return first
	case first <= topTwo:
		return mostOne + (first-topOne-1)*256 + tail
	case first == threeMark:
		return mostTwo + 1 + tail
	}
	return tail
}

// highFirst reads bytes as one number, the highest first.
func highFirst(p []byte) uint64 {
	n := uint64(0)
	for _, b := range p {
		n = n<<8 | uint64(b)
	}
	return n
}

// Text answers the text's bytes, with their number ahead.
func Text(t []byte) []byte {
	return Join(Num(uint64(len(t))), t)
}

// TakeText answers the text in front, and what stands behind.
func TakeText(p []byte, most int) ([]byte, []byte, api.Errno) {
	n, size, err := front(p)
	if err != api.OK {
		return nil, nil, err
	}
	if most < 0 || n > uint64(most) {
		return nil, nil, api.ErrLong
	}
	rest := p[size:]
	if n > uint64(len(rest)) {
		return nil, nil, api.ErrShort
	}
	return fresh(rest[:n]), fresh(rest[n:]), api.OK
}

// Join answers all the texts, one behind the other.
func Join(l ...[]byte) []byte {
	size := 0
	for _, t := range l {
		size += len(t)
	}
	all := make([]byte, 0, size)
	for _, t := range l {
		all = append(all, t...)
	}
	return all
}

// Less tells whether a is below b, byte by byte.
func Less(a, b []byte) bool {
	return bytes.Compare(a, b) < 0
}

// fresh copies bytes, since an answer shares no memory with an argument.
func fresh(p []byte) []byte {
	q := make([]byte, len(p))
	copy(q, p)
	return q
}
