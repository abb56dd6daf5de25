package table

import (
	"bytes"

	"bartizan/api"
	"bartizan/atom"
	"bartizan/ikey"
	"bartizan/leaf"
	"bartizan/seal"
	"bartizan/tomb"
)

const (
	parts    = 4  // that the foot tells: the leaves, the index, the filter, the spans
	wordSize = 4  // bytes of a part's length
	footSize = 23 // with its sum
)

// How many bytes there are at most of what is read from the front.
const (
	mostNum     = 9
	mostText    = 1 + api.MaxKey
	mostVersion = mostText + 8
)

// mark stands at the end of each foot.
const mark = "\x1a\xb1\xe5"

// foot answers the seal that tells how many bytes the parts have.
func foot(all ...[]byte) []byte {
	var p []byte
	for _, part := range all {
		for i := range wordSize {
			p = append(p, byte(len(part)>>(8*i)))
		}
	}
	return seal.Close(append(p, mark...))
}

// Open answers the table whose bytes p are.
func Open(p []byte) (*Table, api.Errno) {
	all, ok := cut(p)
	if !ok {
		return nil, api.ErrForm
	}
	l, ok := readLeaves(all[0], all[1])
	if !ok {
		return nil, api.ErrForm
	}
	filter, err := seal.Open(all[2])
	if err != api.OK {
		return nil, api.ErrForm
	}
	ranges, ok := readSpans(all[3])
	if !ok {
		return nil, api.ErrForm
	}
	// A table has one form only: so what was read tells whether all the rest,
	// the index, the filter and the order among it, was right.
	again, err := Build(l, ranges)
	if err != api.OK || !bytes.Equal(again, p) {
		return nil, api.ErrForm
	}
	return &Table{spans: spans{tomb.New(ranges...)}, entries: l, filter: filter}, api.OK
}

// cut answers the parts that the foot of p tells; false: it tells none, or not all of p.
func cut(p []byte) ([parts][]byte, bool) {
	var all [parts][]byte
	at := len(p) - footSize
	if at < 0 {
		return all, false
	}
	text, err := seal.Open(p[at:])
	if err != api.OK {
		return all, false
	}
	rest := p[:at]
	for i := range all {
		size := word(text[i*wordSize:])
		if size > uint64(len(rest)) {
			return all, false
		}
		all[i], rest = rest[:size], rest[size:]
	}
	return all, len(rest) == 0
}

// word reads the first wordSize bytes as one number, the lowest first.
func word(p []byte) uint64 {
	n := uint64(0)
	for i := range wordSize {
		n |= uint64(p[i]) << (8 * i)
	}
	return n
}

// readLeaves answers the entries of the leaves, whose lengths the index tells;
// false: these aren't leaves and an index.
func readLeaves(leaves, index []byte) ([]api.Entry, bool) {
	rest, err := seal.Open(index)
	if err != api.OK {
		return nil, false
	}
	var l []api.Entry
	for len(rest) > 0 {
		var size uint64
		var ok bool
		size, rest, ok = takeLine(rest)
		if !ok || size > uint64(len(leaves)) {
			return nil, false
		}
		part, ok := readLeaf(leaves[:size])
		if !ok {
			return nil, false
		}
		l = append(l, part...)
		leaves = leaves[size:]
	}
	return l, true
}

// takeLine answers the length that the line in front of an index tells, and what
// stands behind; false: there is none. Which version it names is for Open to compare.
func takeLine(p []byte) (uint64, []byte, bool) {
	head := front(p, mostVersion)
	_, behind, err := ikey.Read(head)
	if err != api.OK {
		return 0, nil, false
	}
	return takeNum(p[len(head)-len(behind):])
}

// readLeaf answers the entries of a sealed leaf; false: it is none.
func readLeaf(p []byte) ([]api.Entry, bool) {
	text, err := seal.Open(p)
	if err != api.OK {
		return nil, false
	}
	l, err := leaf.Read(text)
	return l, err == api.OK
}

// readSpans answers the spans that p is the seal of; false: it is none's.
func readSpans(p []byte) ([]api.Span, bool) {
	rest, err := seal.Open(p)
	if err != api.OK {
		return nil, false
	}
	var l []api.Span
	for len(rest) > 0 {
		var s api.Span
		var ok bool
		s, rest, ok = takeSpan(rest)
		if !ok {
			return nil, false
		}
		l = append(l, s)
	}
	return l, true
}

// takeSpan answers the span in front of p, and what stands behind; false: there is none.
func takeSpan(p []byte) (api.Span, []byte, bool) {
	from, p, ok := takeText(p)
	if !ok {
		return api.Span{}, nil, false
	}
	to, p, ok := takeText(p)
	if !ok {
		return api.Span{}, nil, false
	}
	seq, p, ok := takeNum(p)
	return api.Span{From: from, To: to, Seq: seq}, p, ok
}

// takeText answers the text in front of p, and what stands behind; false: there is none.
func takeText(p []byte) ([]byte, []byte, bool) {
	head := front(p, mostText)
	text, behind, err := atom.TakeText(head, api.MaxKey)
	if err != api.OK {
		return nil, nil, false
	}
	return text, p[len(head)-len(behind):], true
}

// takeNum answers the number in front of p, and what stands behind; false: there is none.
func takeNum(p []byte) (uint64, []byte, bool) {
	head := front(p, mostNum)
	n, behind, err := atom.Take(head)
	if err != api.OK {
		return 0, nil, false
	}
	return n, p[len(head)-len(behind):], true
}

// front answers no more of p than what is read there can have: the layers below
// copy what stands behind it, which for all of a long p, time and again, is too much.
func front(p []byte, size int) []byte {
	return p[:min(len(p), size)]
}
