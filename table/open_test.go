package table_test

import (
	"encoding/binary"
	"hash/crc32"
	"math/bits"
	"slices"
	"strings"
	"testing"
	"time"

	"bartizan/api"
	"bartizan/bloom"
	"bartizan/table"
)

// sealed tells a text with its masked sum, by another library's sum.
func sealed(t string) string {
	s := crc32.Checksum([]byte(t), crc32.MakeTable(crc32.Castagnoli))
	m := bits.RotateLeft32(s, 17) + 0xa282ead8
	return t + string(binary.LittleEndian.AppendUint32(nil, m))
}

// number tells a number's bytes.
func number(n uint64) string {
	switch {
	case n <= 240:
		return string([]byte{byte(n)})
	case n <= 2287:
		return string([]byte{byte(241 + (n-240)/256), byte((n - 240) % 256)})
	case n <= 67823:
		return "\xf9" + string(binary.BigEndian.AppendUint16(nil, uint16(n-2288)))
	}
	p := binary.BigEndian.AppendUint64(nil, n)
	for len(p) > 3 && p[0] == 0 {
		p = p[1:]
	}
	return string([]byte{byte(247 + len(p))}) + string(p)
}

func textual(t string) string {
	return number(uint64(len(t))) + t
}

func tail(k api.Key) string {
	return string(binary.LittleEndian.AppendUint64(nil, k.Seq*256+uint64(k.Kind)))
}

// plainLeaf packs entries in the plainest way, whether they may be a leaf or not.
func plainLeaf(l []api.Entry) string {
	var body, places, ahead string
	count := uint16(0)
	for i, e := range l {
		form := string(e.Key.User) + tail(e.Key)
		shared := 0
		if i%4 > 0 {
			for shared < len(form) && strings.HasPrefix(ahead, form[:shared+1]) {
				shared++
			}
		} else {
			places += string(binary.LittleEndian.AppendUint16(nil, uint16(len(body))))
			count++
		}
		body += number(uint64(shared)) + number(uint64(len(form)-shared)) + number(uint64(len(e.Value))) + form[shared:] + string(e.Value)
		ahead = form
	}
	return body + places + string(binary.LittleEndian.AppendUint16(nil, count))
}

// line tells what an index says of a leaf.
func line(last api.Key, size int) string {
	return textual(string(last.User)) + tail(last) + number(uint64(size))
}

// laid tells the leaves and the index (without its sum) of entries in leaves of these sizes.
func laid(l []api.Entry, sizes ...int) (string, string) {
	var leaves, index strings.Builder
	for _, size := range sizes {
		one := sealed(plainLeaf(l[:size]))
		leaves.WriteString(one)
		index.WriteString(line(l[size-1].Key, len(one)))
		l = l[size:]
	}
	return leaves.String(), index.String()
}

// eights tells how many entries each leaf has of so many.
func eights(count int) []int {
	var sizes []int
	for ; count > 8; count -= 8 {
		sizes = append(sizes, 8)
	}
	if count > 0 {
		sizes = append(sizes, count)
	}
	return sizes
}

func filterOf(l []api.Entry) string {
	var keys [][]byte
	for _, e := range l {
		keys = append(keys, e.Key.User)
	}
	return string(bloom.Build(10, keys...))
}

func spansText(l []api.Span) string {
	var b strings.Builder
	for _, s := range l {
		b.WriteString(textual(string(s.From)) + textual(string(s.To)) + number(s.Seq))
	}
	return b.String()
}

// footOf tells the foot of parts.
func footOf(mark string, parts ...string) string {
	var p []byte
	for _, part := range parts {
		p = binary.LittleEndian.AppendUint32(p, uint32(len(part)))
	}
	return sealed(string(p) + mark)
}

const mark = "\x1a\xb1\xe5"

// joined tells the table of these parts, as they stand, and their foot.
func joined(parts ...string) string {
	return strings.Join(parts, "") + footOf(mark, parts...)
}

// plain tells a table in the plainest way, whether there is one of that or not.
func plain(c content) string {
	leaves, index := laid(c.l, eights(len(c.l))...)
	return joined(leaves, sealed(index), sealed(filterOf(c.l)), sealed(spansText(c.spans)))
}

func refuses(t *testing.T, what, p string) {
	t.Helper()
	if x, err := table.Open([]byte(p)); x != nil || err != api.ErrForm {
		t.Errorf("%s: Open(%.200x) = %t, %d", what, p, x != nil, err)
	}
}

func TestOpenOfNothing(t *testing.T) {
	if x, err := table.Open(nil); x != nil || err != api.ErrForm {
		t.Errorf("Open(nil) = %v, %d", x, err)
	}
	for size := range 60 {
		refuses(t, "noughts", strings.Repeat("\x00", size))
		refuses(t, "ones", strings.Repeat("\xff", size))
		refuses(t, "a text", text(size))
		refuses(t, "a seal", sealed(text(size)))
	}
	refuses(t, "a foot alone", joined("", "", "", ""))
	refuses(t, "no seals", joined("a", "b", "c", "d"))
}

// Of neither entries nor spans there is no table, however right its form.
func TestOpenOfNeither(t *testing.T) {
	refuses(t, "neither", plain(content{}))
	refuses(t, "an empty leaf", joined(sealed("\x00\x00"), sealed(line(version("a", 1, 2), 6)), sealed(filterOf(nil)), sealed("")))
}

func TestOpenOfChangedBytes(t *testing.T) {
	for _, c := range []content{example(), {numbered(9, 2, 1), nil}, {nil, ranges(2)}} {
		p := build(t, c)
		for at := range p {
			for _, by := range []byte{1, 2, 16, 128, 255} {
				p[at] ^= by
				refuses(t, "changed", string(p))
				p[at] ^= by
			}
		}
		if _, err := table.Open(p); err != api.OK {
			t.Errorf("Open of what was put right = %d", err)
		}
	}
}

func TestOpenOfWhatEndsTooEarlyOrTooLate(t *testing.T) {
	for _, c := range []content{example(), {numbered(17, 2, 1), nil}, {nil, ranges(2)}} {
		p := string(build(t, c))
		for size := range len(p) {
			refuses(t, "too early", p[:size])
			if size > 0 {
				refuses(t, "begun too late", p[size:])
			}
		}
		for _, more := range []string{"\x00", "a", text(23), text(60)} {
			refuses(t, "more behind", p+more)
			refuses(t, "more ahead", more+p)
		}
		refuses(t, "twice", p+p)
	}
}

func TestOpenOfWrongFeet(t *testing.T) {
	c := content{numbered(9, 2, 1), ranges(2)}
	leaves, index := laid(c.l, 8, 1)
	parts := []string{leaves, sealed(index), sealed(filterOf(c.l)), sealed(spansText(c.spans))}
	body := strings.Join(parts, "")
	if body+footOf(mark, parts...) != string(build(t, c)) {
		t.Fatal("the parts aren't the table's")
	}
	for _, m := range []string{"\x1a\xb1\xe4", "\x1b\xb1\xe5", "\xe5\xb1\x1a", "\x00\x00\x00"} {
		refuses(t, "another mark", body+footOf(m, parts...))
	}
	refuses(t, "no mark", body+footOf("", parts...))
	refuses(t, "a longer mark", body+footOf(mark+"\x00", parts...))
	refuses(t, "a part less", body+footOf(mark, parts[:3]...))
	refuses(t, "a part more", body+footOf(mark, append(slices.Clone(parts), "")...))
	for i := range parts {
		less, more := slices.Clone(parts), slices.Clone(parts)
		less[i] = less[i][1:]
		more[i] += "a"
		refuses(t, "a length too little", body+footOf(mark, less...))
		refuses(t, "a length too great", body+footOf(mark, more...))
		for j := range i {
			swapped := slices.Clone(parts)
			swapped[i], swapped[j] = swapped[j], swapped[i]
			refuses(t, "lengths swapped", body+footOf(mark, swapped...))
			refuses(t, "parts swapped", joined(swapped...))
		}
		twice := slices.Clone(parts)
		twice[i] += twice[i]
		refuses(t, "a part twice", joined(twice...))
		none := slices.Clone(parts)
		none[i] = ""
		refuses(t, "no part", joined(none...))
		// A table may have no spans.
		if none[i] = sealed(""); i < 3 {
			refuses(t, "an empty part", joined(none...))
		}
	}
	great := "\xff\xff\xff\xff"
	refuses(t, "great lengths", body+sealed(strings.Repeat(great, 4)+mark))
	refuses(t, "a sum that goes round", body+sealed(great+"\x01\x00\x00\x00"+strings.Repeat("\x00", 8)+mark))
	refuses(t, "no lengths", body+sealed(strings.Repeat("\x00", 16)+mark))
}

// Whatever stands in a part must be what Build makes, though all sums are right.
func TestOpenOfOtherLeaves(t *testing.T) {
	l := numbered(17, 2, 1)
	of := func(what string, l []api.Entry, sizes ...int) {
		t.Helper()
		leaves, index := laid(l, sizes...)
		refuses(t, what, joined(leaves, sealed(index), sealed(filterOf(l)), sealed("")))
	}
	of("leaves of other sizes", l, 1, 8, 8)
	of("leaves of other sizes", l, 8, 1, 8)
	of("leaves of other sizes", l, 7, 8, 2)
	of("leaves of other sizes", l, 8, 9)
	of("one leaf", l, 17)
	of("one leaf of nine", l[:9], 9)
	of("two leaves of eight", l[:8], 4, 4)
	for _, two := range fallen() {
		of("in one leaf they don't rise", two, 2)
		of("from leaf to leaf they don't rise", append(numbered(7, 2, 0), two...), 8, 1)
	}
	for _, wrongs := range wrong() {
		for _, e := range wrongs {
			// A greater Seq has no eight bytes of its own.
			if e.Key.Seq <= api.MaxSeq {
				of("an entry isn't right", []api.Entry{e}, 1)
			}
		}
	}
	of("too many", numbered(1001, 2, 0), eights(1001)...)
	one, two := plainLeaf(l[:8]), plainLeaf(l[8:16])
	filter, spans := sealed(filterOf(l[:16])), sealed("")
	index := sealed(line(l[7].Key, len(one)+4) + line(l[15].Key, len(two)+4))
	if _, err := table.Open([]byte(joined(sealed(one)+sealed(two), index, filter, spans))); err != api.OK {
		t.Fatal(err)
	}
	refuses(t, "leaves swapped", joined(sealed(two)+sealed(one), index, filter, spans))
	refuses(t, "no sums", joined(one+"aaaa"+two+"bbbb", index, filter, spans))
	refuses(t, "bytes behind the leaves", joined(sealed(one)+sealed(two)+"a", index, filter, spans))
	refuses(t, "a leaf behind the leaves", joined(sealed(one)+sealed(two)+sealed(plainLeaf(l[16:])), index, filter, spans))
	refuses(t, "an empty leaf", joined(sealed(one)+sealed(two)+sealed("\x00\x00"),
		sealed(line(l[7].Key, len(one)+4)+line(l[15].Key, len(two)+4)+line(l[15].Key, 6)), filter, spans))
}

func TestOpenOfOtherIndexes(t *testing.T) {
	l := numbered(9, 2, 1)
	leaves, index := laid(l, 8, 1)
	with := func(what, index string) {
		t.Helper()
		refuses(t, what, joined(leaves, sealed(index), sealed(filterOf(l)), sealed("")))
	}
	one, two := len(sealed(plainLeaf(l[:8]))), len(sealed(plainLeaf(l[8:])))
	if index != line(l[7].Key, one)+line(l[8].Key, two) {
		t.Fatal("another index")
	}
	with("no lines", "")
	with("one line", line(l[7].Key, one))
	with("the other line", line(l[8].Key, two))
	with("one line for both", line(l[8].Key, one+two))
	with("three lines", index+line(l[8].Key, two))
	with("a line of nothing", index+line(l[8].Key, 0))
	with("the first version, not the last", line(l[0].Key, one)+line(l[8].Key, two))
	with("another version", line(version("a", 1, 2), one)+line(l[8].Key, two))
	with("another Seq", line(l[7].Key, one)+line(version(string(l[8].Key.User), 1, 2), two))
	with("another Kind", line(l[7].Key, one)+line(version(string(l[8].Key.User), l[8].Key.Seq, 1), two))
	with("a version that isn't right", line(l[7].Key, one)+line(version("", 1, 2), two))
	with("lengths swapped", line(l[7].Key, two)+line(l[8].Key, one))
	with("a length too little", line(l[7].Key, one-1)+line(l[8].Key, two+1))
	with("a length too great", line(l[7].Key, one)+line(l[8].Key, two+1))
	with("a great length", line(l[7].Key, one)+line(l[8].Key, 1<<40))
	with("the greatest length", line(l[7].Key, one)+textual(string(l[8].Key.User))+tail(l[8].Key)+strings.Repeat("\xff", 9))
	with("a length in another form", line(l[7].Key, one)+textual(string(l[8].Key.User))+tail(l[8].Key)+"\xfa\x00\x00"+string([]byte{byte(two)}))
	for size := range len(index) {
		with("too short", index[:size])
	}
	with("more behind", index+"\x00")
}

func TestOpenOfOtherFilters(t *testing.T) {
	l := numbered(9, 2, 1)
	leaves, index := laid(l, 8, 1)
	with := func(what, filter string) {
		t.Helper()
		refuses(t, what, joined(leaves, sealed(index), sealed(filter), sealed("")))
	}
	filter := filterOf(l)
	for at := range 8 * len(filter) {
		changed := []byte(filter)
		changed[at/8] ^= 1 << (at % 8)
		with("a bit", string(changed))
	}
	with("none", "")
	with("of no keys", filterOf(nil))
	with("of other keys", filterOf(numbered(9, 3, 1)))
	with("of fewer keys", filterOf(l[:8]))
	with("of more bits", string(bloom.Build(11, []byte("a"))))
	with("too long", filter+"\x00")
	with("too short", filter[:len(filter)-1])
}

func TestOpenOfOtherSpans(t *testing.T) {
	with := func(what, spans string) {
		t.Helper()
		refuses(t, what, joined("", sealed(""), sealed(filterOf(nil)), sealed(spans)))
		l := numbered(9, 2, 1)
		leaves, index := laid(l, 8, 1)
		refuses(t, what, joined(leaves, sealed(index), sealed(filterOf(l)), sealed(spans)))
	}
	for _, s := range wrongSpans() {
		with("not right", spansText([]api.Span{s}))
		with("not right", spansText([]api.Span{span("a", "b", 1), s}))
		with("not right", spansText([]api.Span{s, span("a", "b", 1)}))
	}
	with("too many", spansText(ranges(1001)))
	whole := spansText(ranges(2))
	for size := range len(whole) {
		if size != len(whole)/2 && size != 0 {
			with("too short", whole[:size])
		}
	}
	with("more behind", whole+"\x00")
	with("a number in another form", "\x01a\x01b\xf9\x00\x01"[:4]+"\xfa\x00\x00\x01")
	with("a text's length in another form", "\xfa\x00\x00\x01a\x01b\x01")
	with("a great length", "\x01a\xff"+strings.Repeat("\xff", 8)+"b\x01")
	with("the greatest number", "\x01a\x01b"+strings.Repeat("\xff", 9))
	with("a number that isn't all there", "\x01a\x01b"+strings.Repeat("\xff", 8))
}

// What has far more than a table may have is refused as well, and soon.
func TestOpenOfFarTooMuch(t *testing.T) {
	began := time.Now()
	many := strings.Repeat(spansText([]api.Span{span("a", "b", 1)}), 200000)
	refuses(t, "spans", joined("", sealed(""), sealed(filterOf(nil)), sealed(many)))
	empty := sealed("\x00\x00")
	lines := strings.Repeat(line(version("a", 1, 2), len(empty)), 100000)
	refuses(t, "empty leaves", joined(strings.Repeat(empty, 100000), sealed(lines), sealed(filterOf(nil)), sealed("")))
	if took := time.Since(began); took > 20*time.Second {
		t.Errorf("it took %v", took)
	}
}
