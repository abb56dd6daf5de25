// Package seal is layer 2: see shared/doc/02-seal.md.
package seal

import (
	"math/bits"

	"bartizan/api"
)

const (
	sumSize  = 4  // bytes of a sum
	maskTurn = 15 // bits
	maskAdd  = 0xa282ead8
)

// nibbles holds what four bits, shifted out, change in a sum. By half bytes
// the table stays short.
var nibbles = [16]uint32{
	0x00000000, 0x105ec76f, 0x20bd8ede, 0x30e349b1,
	0x417b1dbc, 0x5125dad3, 0x61c69362, 0x7198540d,
	0x82f63b78, 0x92a8fc17, 0xa24bb5a6, 0xb21572c9,
	0xc38d26c4, 0xd3d3e1ab, 0xe330a81a, 0xf36e6f75,
}

// Sum answers the CRC-32C of all p, as they stand one behind the other.
func Sum(p ...[]byte) uint32 {
	s := ^uint32(0)
	for _, t := range p {
		s = sumOn(s, t)
	}
	return ^s
}

// sumOn carries a sum that is under way on over more bytes.
func sumOn(s uint32, t []byte) uint32 {
	for _, b := range t {
		s ^= uint32(b)
		s = s>>4 ^ nibbles[s&15]
		s = s>>4 ^ nibbles[s&15]
	}
	return s
}

// Mask answers the masked sum.
func Mask(s uint32) uint32 {
	return bits.RotateLeft32(s, -maskTurn) + maskAdd
}

// Unmask answers the sum that was masked.
func Unmask(s uint32) uint32 {
	return bits.RotateLeft32(s-maskAdd, maskTurn)
}

// Close answers the text's seal.
func Close(t []byte) []byte {
	p := make([]byte, len(t)+sumSize)
	copy(p, t)
	m := Mask(Sum(t))
	for i := range sumSize {
		p[len(t)+i] = byte(m >> (8 * i))
	}
	return p
}

// Open answers the text of which p is the seal.
func Open(p []byte) ([]byte, api.Errno) {
	if len(p) < sumSize {
		return nil, api.ErrShort
	}
	at := len(p) - sumSize
	if lowFirst(p[at:]) != Mask(Sum(p[:at])) {
		return nil, api.ErrSum
	}
	t := make([]byte, at)
	copy(t, p)
	return t, api.OK
}

// lowFirst reads bytes as one number, the lowest first.
func lowFirst(p []byte) uint32 {
	n := uint32(0)
	for i, b := range p {
		n |= uint32(b) << (8 * i)
	}
	return n
}
