package entry_test

import (
	"bytes"
	"slices"
	"strings"
	"testing"

	"bartizan/api"
	"bartizan/atom"
	"bartizan/batch"
	"bartizan/entry"
)

func put(key, value string) api.Op {
	return api.Op{Kind: api.Put, Key: []byte(key), Value: []byte(value)}
}

func del(key string) api.Op {
	return api.Op{Kind: api.Delete, Key: []byte(key)}
}

func span(from, to string) api.Op {
	return api.Op{Kind: api.Range, Key: []byte(from), Value: []byte(to)}
}

func note(kind byte, seq uint64, name string, ops ...api.Op) entry.Note {
	return entry.Note{Kind: kind, Seq: seq, Name: []byte(name), Ops: ops}
}

// sameOp tells whether two ops have the same fields.
func sameOp(a, b api.Op) bool {
	return a.Kind == b.Kind && bytes.Equal(a.Key, b.Key) && bytes.Equal(a.Value, b.Value)
}

// same tells whether two entries have the same fields.
func same(a, b entry.Note) bool {
	return a.Kind == b.Kind && a.Seq == b.Seq && bytes.Equal(a.Name, b.Name) && slices.EqualFunc(a.Ops, b.Ops, sameOp)
}

// text makes one of so many bytes, each unlike its neighbours.
func text(size int) string {
	p := make([]byte, size)
	for i := range p {
		p[i] = byte(i*7 + i>>8 + 1)
	}
	return string(p)
}

// greatest is the entry that has the most bytes.
func greatest() entry.Note {
	ops := slices.Repeat([]api.Op{put(text(api.MaxKey), text(api.MaxValue))}, api.MaxOps)
	return note(entry.Prepare, 0, text(api.MaxName), ops...)
}

// form is an entry and its bytes.
type form struct {
	n entry.Note
	p string
}

// forms holds entries that are right, at the edges of the chapter's words.
func forms() []form {
	long := text(api.MaxName)
	return []form{
		{note(entry.Commit, 5, "a"), "\x03\x05\x01a\x00"},
		{note(entry.Commit, 1, "\x00"), "\x03\x01\x01\x00\x00"},
		{note(entry.Commit, api.MaxSeq, long), "\x03\xfe\xff\xff\xff\xff\xff\xff\xff\x20" + long + "\x00"},
		{note(entry.Commit, 240, "a"), "\x03\xf0\x01a\x00"},
		{note(entry.Commit, 241, "a"), "\x03\xf1\x01\x01a\x00"},
		{note(entry.Commit, 2288, "a"), "\x03\xf9\x00\x00\x01a\x00"},
		{note(entry.Commit, 67824, "a"), "\x03\xfa\x01\x08\xf0\x01a\x00"},
		{note(entry.Undo, 0, "a"), "\x04\x00\x01a\x00"},
		{note(entry.Undo, 0, long), "\x04\x00\x20" + long + "\x00"},
		{note(entry.Write, 1, ""), "\x01\x01\x00\x00"},
		{entry.Note{Kind: entry.Write, Seq: 1}, "\x01\x01\x00\x00"},
		{note(entry.Write, api.MaxSeq, "", put("a", "x")), "\x01\xfe\xff\xff\xff\xff\xff\xff\xff\x00\x01\x02\x01a\x01x"},
		{note(entry.Write, 7, "", put("b", ""), span("a", "cd"), del("z")), "\x01\x07\x00\x03\x02\x01b\x00\x03\x01a\x02cd\x01\x01z\x00"},
		{note(entry.Write, 3, "", slices.Repeat([]api.Op{del("a")}, api.MaxOps)...), "\x01\x03\x00\x40" + strings.Repeat("\x01\x01a\x00", api.MaxOps)},
		{note(entry.Prepare, 0, "p"), "\x02\x00\x01p\x00"},
		{note(entry.Prepare, 0, "p", del("a")), "\x02\x00\x01p\x01\x01\x01a\x00"},
		{note(entry.Prepare, 0, long, put("a", text(241))), "\x02\x00\x20" + long + "\x01\x02\x01a\xf1\x01" + text(241)},
	}
}

// wrong holds entries that aren't right.
func wrong() []entry.Note {
	long := text(api.MaxName + 1)
	tooMany := slices.Repeat([]api.Op{del("a")}, api.MaxOps+1)
	all := []entry.Note{
		{},
		// Kinds that are none.
		note(0, 1, ""),
		note(0, 0, "a"),
		note(5, 0, "a"),
		note(5, 1, "a"),
		note(5, 1, ""),
		note(255, 1, "a"),
		note(129, 1, ""),
		// Seq outside its range.
		note(entry.Write, 0, ""),
		note(entry.Write, api.MaxSeq+1, ""),
		note(entry.Write, 1<<64-1, "", put("a", "x")),
		note(entry.Write, 1<<63, ""),
		note(entry.Prepare, 1, "p"),
		note(entry.Prepare, api.MaxSeq, "p", del("a")),
		note(entry.Prepare, api.MaxSeq+1, "p"),
		note(entry.Commit, 0, "p"),
		note(entry.Commit, api.MaxSeq+1, "p"),
		note(entry.Commit, 1<<64-1, "p"),
		note(entry.Undo, 1, "p"),
		note(entry.Undo, api.MaxSeq, "p"),
		note(entry.Undo, 1<<64-1, "p"),
		// Names that are missing, too long, or there where none is.
		note(entry.Write, 1, "a"),
		note(entry.Write, 1, "\x00", put("a", "x")),
		note(entry.Write, 1, long),
		note(entry.Prepare, 0, ""),
		note(entry.Prepare, 0, "", del("a")),
		note(entry.Prepare, 0, long),
		note(entry.Commit, 1, ""),
		note(entry.Commit, 1, long),
		note(entry.Undo, 0, ""),
		note(entry.Undo, 0, long),
		note(entry.Undo, 0, text(1000)),
		// Ops where there are none.
		note(entry.Commit, 1, "p", del("a")),
		note(entry.Commit, 1, "p", api.Op{}),
		note(entry.Undo, 0, "p", del("a")),
		note(entry.Undo, 0, "p", put("a", "x"), del("a")),
	}
	// Ops that are no batch: whatever batch says of them, the entry isn't right.
	for _, ops := range [][]api.Op{
		{{}},
		{{Kind: 4, Key: []byte("a")}},
		{put("", "x")},
		{put(text(api.MaxKey+1), "x")},
		{put("a", text(api.MaxValue+1))},
		{{Kind: api.Delete, Key: []byte("a"), Value: []byte("x")}},
		{span("b", "a")},
		{span("a", "a")},
		{put("a", "x"), del("")},
		tooMany,
	} {
		all = append(all, note(entry.Write, 1, "", ops...), note(entry.Prepare, 0, "p", ops...))
	}
	return all
}

func TestBytes(t *testing.T) {
	for _, f := range forms() {
		if p, err := entry.Bytes(f.n); string(p) != f.p || err != api.OK {
			t.Errorf("Bytes(%v) = % x, %d, want % x", f.n, p, err, f.p)
		}
	}
}

func TestBytesOfWrong(t *testing.T) {
	for _, n := range wrong() {
		if p, err := entry.Bytes(n); len(p) != 0 || err != api.ErrForm {
			t.Errorf("Bytes(%v) = % x, %d", n, p, err)
		}
	}
}

func TestBytesOfEachKind(t *testing.T) {
	for kind := range 256 {
		// Whether there are Seq, a Name and Ops tells which Kinds are right.
		for i := range 8 {
			n := entry.Note{Kind: byte(kind)}
			if i&1 > 0 {
				n.Seq = 9
			}
			if i&2 > 0 {
				n.Name = []byte("p")
			}
			if i&4 > 0 {
				n.Ops = []api.Op{del("a")}
			}
			want := api.ErrForm
			switch {
			case kind == entry.Write && (i == 1 || i == 5),
				kind == entry.Prepare && (i == 2 || i == 6),
				kind == entry.Commit && i == 3,
				kind == entry.Undo && i == 2:
				want = api.OK
			}
			if _, err := entry.Bytes(n); err != want {
				t.Errorf("Bytes(%v) = %d, want %d", n, err, want)
			}
		}
	}
}

func TestRead(t *testing.T) {
	for _, f := range forms() {
		if n, err := entry.Read([]byte(f.p)); !same(n, f.n) || err != api.OK {
			t.Errorf("Read(% x) = %v, %d, want %v", f.p, n, err, f.n)
		}
	}
}

func TestReadTurnsBytesAbout(t *testing.T) {
	was := greatest()
	p, err := entry.Bytes(was)
	if err != api.OK || len(p) > api.MaxRecord {
		t.Fatal(len(p), err)
	}
	if n, err := entry.Read(p); !same(n, was) || err != api.OK {
		t.Errorf("Read(Bytes) of %d bytes: %d", len(p), err)
	}
}

func refusesRead(t *testing.T, p string) {
	t.Helper()
	if n, err := entry.Read([]byte(p)); !same(n, entry.Note{}) || err != api.ErrForm {
		t.Errorf("Read(% x) = %v, %d", p, n, err)
	}
}

func TestReadOfWhatEndsTooEarlyOrTooLate(t *testing.T) {
	if n, err := entry.Read(nil); !same(n, entry.Note{}) || err != api.ErrForm {
		t.Errorf("Read(nil) = %v, %d", n, err)
	}
	for _, f := range forms() {
		for size := range len(f.p) {
			refusesRead(t, f.p[:size])
		}
		refusesRead(t, f.p+"\x00")
		refusesRead(t, f.p+"\x01")
		refusesRead(t, f.p+f.p)
		refusesRead(t, f.p+text(70))
	}
}

// plainBytes writes an entry down as it is, right or not; false: there are no bytes of its Ops.
func plainBytes(n entry.Note) (string, bool) {
	ops, err := batch.Bytes(n.Ops)
	return string(atom.Join(atom.Num(uint64(n.Kind)), atom.Num(n.Seq), atom.Text(n.Name), ops)), err == api.OK
}

func TestReadOfEntriesThatAreNotRight(t *testing.T) {
	for _, n := range wrong() {
		if p, ok := plainBytes(n); ok {
			refusesRead(t, p)
		}
	}
}

func TestReadOfNoEntry(t *testing.T) {
	for _, p := range []string{
		// A Kind that is none, as a byte too, or in another form.
		"\x00\x05\x01a\x00",
		"\x05\x05\x01a\x00",
		"\xf0\x05\x01a\x00",
		"\xf1\x13\x05\x01a\x00",
		"\xfa\x01\x0a\x03\x05\x01a\x00",
		"\xfa\x00\x00\x03\x05\x01a\x00",
		"\xff\x01\x00\x00\x00\x00\x00\x00\x03\x05\x01a\x00",
		// Seq in another form, or too great.
		"\x03\xfa\x00\x00\x05\x01a\x00",
		"\x03\xff\x00\x00\x00\x00\x00\x00\x00\x05\x01a\x00",
		"\x03\xff\x01\x00\x00\x00\x00\x00\x00\x00\x01a\x00",
		"\x01\xff\xff\xff\xff\xff\xff\xff\xff\xff\x00\x00",
		// Names in another form, or of more bytes than there are.
		"\x03\x05\xfa\x00\x00\x01a\x00",
		"\x03\x05\x21" + text(33) + "\x00",
		"\x03\x05\x02a\x00",
		"\x03\x05\xff\xff\xff\xff\xff\xff\xff\xff\xff\x00",
		// Batches that are none.
		"\x01\x05\x00\x01",
		"\x01\x05\x00\x41" + strings.Repeat("\x01\x01a\x00", api.MaxOps+1),
		"\x01\x05\x00\x01\x04\x01a\x00",
		"\x01\x05\x00\x01\x02\x00\x01x",
		"\x01\x05\x00\x01\x03\x01b\x01a",
		"\x01\x05\x00\xfa\x00\x00\x00",
		"\x02\x00\x01p\x01\x01\x01a\x01x",
		"\x03\x05\x01a\x01\x01\x01a\x00",
		"\x04\x00\x01a\x01\x01\x01a\x00",
	} {
		refusesRead(t, p)
	}
}

// Whatever is read is right, and has no other bytes than those that were read.
func TestReadOfChangedBytes(t *testing.T) {
	for _, f := range forms() {
		if len(f.p) > 50 {
			continue
		}
		for i := range f.p {
			for b := range 256 {
				p := []byte(f.p)
				p[i] = byte(b)
				n, err := entry.Read(p)
				if err == api.OK {
					if q, err := entry.Bytes(n); !bytes.Equal(p, q) || err != api.OK {
						t.Errorf("Bytes(Read(% x)) = % x, %d", p, q, err)
					}
				} else if err != api.ErrForm || !same(n, entry.Note{}) {
					t.Errorf("Read(% x) = %v, %d", p, n, err)
				}
			}
		}
	}
}

// roomy copies p in front of spare room whose bytes are known.
func roomy(p string) []byte {
	q := bytes.Repeat([]byte{0xa5}, len(p)+16)
	copy(q, p)
	return q[:len(p)]
}

// untouched tells whether q, which roomy made of p, is as it was.
func untouched(q []byte, p string) bool {
	return bytes.Equal(q[:len(p)+16], append([]byte(p), bytes.Repeat([]byte{0xa5}, 16)...))
}

// spoil writes over bytes and their spare room.
func spoil(p []byte) {
	p = p[:cap(p)]
	for i := range p {
		p[i] = 0x5a
	}
}

// spoilNote writes over all that an entry holds, and all spare room.
func spoilNote(n entry.Note) {
	spoil(n.Name)
	ops := n.Ops[:cap(n.Ops)]
	for i := range ops {
		spoil(ops[i].Key)
		spoil(ops[i].Value)
		ops[i] = put("spoilt", "spoilt")
	}
}

// roomyNote makes a right entry, and the list's spare room holds a third op.
func roomyNote() entry.Note {
	ops := []api.Op{
		{Kind: api.Put, Key: roomy("b"), Value: roomy("x")},
		{Kind: api.Range, Key: roomy("a"), Value: roomy("c")},
		{Kind: api.Delete, Key: roomy("spare"), Value: roomy("spare")},
	}
	return entry.Note{Kind: entry.Prepare, Name: roomy("p"), Ops: ops[:2]}
}

func untouchedNote(n entry.Note) bool {
	l := n.Ops[:3]
	return n.Kind == entry.Prepare && n.Seq == 0 && untouched(n.Name, "p") && len(n.Ops) == 2 &&
		l[0].Kind == api.Put && untouched(l[0].Key, "b") && untouched(l[0].Value, "x") &&
		l[1].Kind == api.Range && untouched(l[1].Key, "a") && untouched(l[1].Value, "c") &&
		l[2].Kind == api.Delete && untouched(l[2].Key, "spare") && untouched(l[2].Value, "spare")
}

const roomyBytes = "\x02\x00\x01p\x02\x02\x01b\x01x\x03\x01a\x01c"

func TestBytesMemory(t *testing.T) {
	n := roomyNote()
	first, _ := entry.Bytes(n)
	second, _ := entry.Bytes(n)
	spoil(first)
	if !untouchedNote(n) {
		t.Errorf("an answer shares memory: %v", n)
	}
	spoilNote(n)
	if string(second) != roomyBytes {
		t.Errorf("an answer follows its argument, or an earlier one: % x", second)
	}
}

func TestReadMemory(t *testing.T) {
	p := roomy(roomyBytes)
	first, _ := entry.Read(p)
	second, _ := entry.Read(p)
	spoilNote(first)
	if !untouched(p, roomyBytes) {
		t.Errorf("an answer shares memory: % x", p)
	}
	spoil(p)
	if !same(second, note(entry.Prepare, 0, "p", put("b", "x"), span("a", "c"))) {
		t.Errorf("an answer follows its argument, or an earlier one: %v", second)
	}
}

// lists tells where the lists of an entry are.
func lists(n *entry.Note) []*[]byte {
	l := []*[]byte{&n.Name}
	for i := range n.Ops {
		l = append(l, &n.Ops[i].Key, &n.Ops[i].Value)
	}
	return l
}

func TestListsOfOneEntryAreApart(t *testing.T) {
	want := note(entry.Prepare, 0, "p", put("b", "x"), span("a", "c"))
	for i := range lists(&want) {
		n, _ := entry.Read([]byte(roomyBytes))
		at := lists(&n)[i]
		spoil(*at)
		*at = *lists(&want)[i]
		if !same(n, want) {
			t.Errorf("list %d shares memory: %v", i, n)
		}
	}
}
