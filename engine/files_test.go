package engine_test

import (
	"fmt"
	"slices"
	"strings"
	"testing"

	"bartizan/api"
	"bartizan/disk"
	"bartizan/edit"
	"bartizan/engine"
	"bartizan/entry"
	"bartizan/reel"
	"bartizan/table"
)

// lay puts a file on the disk in the place of what there is.
func lay(t *testing.T, d *disk.Disk, name string, p []byte) {
	t.Helper()
	if slices.Contains(d.List(), name) {
		fine(t, d.Delete(name))
	}
	fine(t, d.Create(name), d.Append(name, p), d.Sync(name))
}

// notes reads the log that the disk tells.
func notes(t *testing.T, d *disk.Disk) []string {
	t.Helper()
	p, err := d.Read(fmt.Sprintf("log.%d", files(t, d).Whole().Log))
	fine(t, err)
	var all []string
	l, _ := entry.Replay(p)
	for _, n := range l {
		all = append(all, fmt.Sprintf("%d %d %s %s", n.Kind, n.Seq, n.Name, opText(n.Ops)))
	}
	return all
}

// What was done stands in the log, note by note, in the form that the layers below tell.
func TestLog(t *testing.T) {
	e, d := store(t, 9)
	logged := func(want ...string) {
		t.Helper()
		if got := notes(t, d); !slices.Equal(got, want) {
			t.Errorf("the log has %q, want %q", got, want)
		}
		tidy(t, d, e)
	}
	logged()
	fine(t, e.Write(ops(put("a", "x"), del("b"))), e.Prepare([]byte("p"), ops(span("a", "b"), put("c", "y"))), e.Prepare([]byte("q"), nil), e.Prepare([]byte("r"), ops(del("a"))))
	fine(t, e.Commit([]byte("p")), e.Undo([]byte("q")))
	logged("1 10  2:a:x,1:b:", "2 0 p 3:a:b,2:c:y", "2 0 q ", "2 0 r 1:a:", "3 12 p ", "4 0 q ")
	// Opened it is told by the fewest notes.
	e = open(t, d)
	logged("1 10  2:a:x,1:b:", "1 12  3:a:b,2:c:y", "2 0 r 1:a:")
	e = open(t, d)
	logged("1 10  2:a:x,1:b:", "1 12  3:a:b,2:c:y", "2 0 r 1:a:")
	fine(t, e.Prepare([]byte("o"), nil), e.Flush())
	logged("2 0 o ", "2 0 r 1:a:")
	fine(t, e.Commit([]byte("r")))
	logged("2 0 o ", "2 0 r 1:a:", "3 14 r ")
	fine(t, e.Compact(0))
	logged("2 0 o ", "2 0 r 1:a:", "3 14 r ")
}

// Each Open has a manifest and a log of its own.
func TestOpenNotesAnew(t *testing.T) {
	e, d := store(t, 0)
	fine(t, e.Write(ops(put("a", "x"))), e.Flush(), e.Write(ops(put("b", "y"))))
	seen := map[string]int{}
	for range 10 {
		for _, name := range d.List() {
			if strings.HasPrefix(name, "manifest.") || strings.HasPrefix(name, "log.") {
				seen[name]++
			}
		}
		e = open(t, d)
		tidy(t, d, e)
	}
	for name, count := range seen {
		if count > 1 {
			t.Errorf("%s was there %d times", name, count)
		}
	}
	if len(d.List()) != 4 {
		t.Errorf("the disk has %v", d.List())
	}
}

// A manifest tells the store by whole edits, also behind many opens.
func TestManifestDoesNotGrowByOpens(t *testing.T) {
	e, d := store(t, 0)
	for i := range 20 {
		fine(t, e.Write(ops(put(fmt.Sprint(i), "x"))), e.Flush(), e.Compact(0))
	}
	open(t, d)
	used := d.Used()
	for range 20 {
		open(t, d)
	}
	if d.Used() > used+20 {
		t.Errorf("%d bytes are used, before %d", d.Used(), used)
	}
}

func TestOpenDeletesWhatIsNotTheStores(t *testing.T) {
	e, d := store(t, 0)
	fine(t, e.Write(ops(put("a", "x"))), e.Flush(), e.Write(ops(put("b", "y"))))
	before := told(e)
	for _, name := range []string{"fresh", "x", "table.0", "table.7", "table.99", "log.0", "log.8", "manifest.0", "manifest.9", "manifest.", "current.1", "a-file"} {
		if !slices.Contains(d.List(), name) {
			lay(t, d, name, []byte("something"))
		}
	}
	next := files(t, d).Whole().Next
	for n := range uint64(5) {
		for _, name := range []string{"log", "manifest", "table"} {
			lay(t, d, fmt.Sprintf("%s.%d", name, next+n), []byte("something else"))
		}
	}
	e = open(t, d)
	tidy(t, d, e)
	if told(e) != before {
		t.Errorf("%s, before %s", told(e), before)
	}
	fine(t, e.Flush(), e.Compact(0))
	tidy(t, d, e)
}

// However many files lie about, and however much room they take, they don't keep a store from being opened.
func TestOpenWithoutRoomForOthers(t *testing.T) {
	d := room(t, 2000)
	fine(t, engine.Format(d, 3))
	e := open(t, d)
	fine(t, e.Write(ops(put("a", "x"))))
	before := told(e)
	lay(t, d, "fresh", make([]byte, 2000-d.Used()))
	for i := 0; len(d.List()) < api.MaxFiles; i++ {
		fine(t, d.Create(fmt.Sprintf("x%d", i)))
	}
	e = open(t, d)
	tidy(t, d, e)
	if told(e) != before {
		t.Errorf("%s, before %s", told(e), before)
	}
}

// A store of which a part is missing or wrong is none, and is left as it is.
func TestOpenOfNoStore(t *testing.T) {
	full := func() *disk.Disk {
		e, d := store(t, 0)
		fine(t, e.Write(numbered(0, 40)), e.Flush(), e.Compact(0), e.Write(ops(put("b", "y"))), e.Flush(), e.Write(ops(put("c", "y"))))
		lay(t, d, "other", []byte("x"))
		return d
	}
	none := func(what string, d *disk.Disk) {
		t.Helper()
		before := image(t, d)
		if e, err := engine.Open(d); e != nil || err != api.ErrForm {
			t.Errorf("%s: Open = %t, %d", what, e != nil, err)
		}
		if image(t, d) != before {
			t.Errorf("%s: the disk has changed", what)
		}
	}
	for _, name := range full().List() {
		if name == "other" {
			continue
		}
		d := full()
		fine(t, d.Delete(name))
		none("without "+name, d)
		if strings.HasPrefix(name, "log.") {
			continue // what isn't right there is taken for a torn end
		}
		for _, p := range []string{"", "\x00", strings.Repeat("x", 100)} {
			d = full()
			lay(t, d, name, []byte(p))
			none(fmt.Sprintf("with %q in %s", p, name), d)
		}
		d = full()
		p, _ := d.Read(name)
		p[0] ^= 1
		lay(t, d, name, p)
		none("with another first byte in "+name, d)
	}
	d := room(t, 1000)
	lay(t, d, "x", []byte("something"))
	none("with some file", d)
	lay(t, d, "current", []byte("current"))
	none("with a current that names itself", d)
	// A manifest whose first edit can't be read says nothing, not that there are no tables.
	lay(t, d, "current", []byte("manifest.1"))
	lay(t, d, "manifest.1", []byte("something"))
	lay(t, d, "log.0", nil)
	none("with a manifest of no edits", d)
}

// A torn end of the log or the manifest is left out, and doesn't hide what comes behind.
func TestTornEnds(t *testing.T) {
	for _, junk := range []string{"\x00", "\x00\x00\x00\x00\x00\x00\x00", "x", strings.Repeat("x", 100)} {
		e, d := store(t, 0)
		fine(t, e.Write(ops(put("a", "x"))), e.Flush(), e.Write(ops(put("b", "y"))))
		before := told(e)
		for _, name := range d.List() {
			if strings.HasPrefix(name, "log.") || strings.HasPrefix(name, "manifest.") {
				fine(t, d.Append(name, []byte(junk)), d.Sync(name))
			}
		}
		e = open(t, d)
		if told(e) != before {
			t.Errorf("%s, before %s", told(e), before)
		}
		fine(t, e.Write(ops(put("c", "z"))), e.Flush(), e.Write(ops(put("d", "z"))))
		before = told(e)
		if got := told(open(t, d)); got != before {
			t.Errorf("%s, before %s", got, before)
		}
	}
}

// Each record of a log stands for itself: cut off anywhere there is what lies whole ahead of the cut.
func TestCutLogs(t *testing.T) {
	e, d := store(t, 0)
	may := []string{lasting(e)}
	for _, s := range []step{
		{kind: toWrite, ops: ops(put("a", "x"))},
		{kind: toPrepare, name: "p", ops: many(9, "b")},
		{kind: toWrite, ops: ops(span("a", "b"), put("c", strings.Repeat("c", 200)))},
		{kind: toCommit, name: "p"},
		{kind: toWrite, ops: ops(del("c"))},
	} {
		fine(t, s.do(&e, d))
		may = append(may, lasting(e))
	}
	name := fmt.Sprintf("log.%d", files(t, d).Whole().Log)
	whole, err := d.Read(name)
	fine(t, err)
	manifest, err := d.Read("current")
	fine(t, err)
	edits, err := d.Read(string(manifest))
	fine(t, err)
	at := 0
	for size := range len(whole) + 1 {
		d := room(t, 10000)
		lay(t, d, "current", manifest)
		lay(t, d, string(manifest), edits)
		lay(t, d, name, whole[:size])
		got := lasting(open(t, d))
		if got != may[at] {
			if at++; at == len(may) || got != may[at] {
				t.Fatalf("cut at %d: %s", size, got)
			}
		}
	}
	if at != len(may)-1 {
		t.Errorf("of all there is %s", may[at])
	}
}

// A store that was laid file by file, as the chapter says, is opened, though its
// manifest and its log have the numbers that would be next.
func TestOpenOfWhatWasLaidByHand(t *testing.T) {
	d := room(t, 10000)
	first := []api.Entry{{Key: api.Key{User: []byte("a"), Seq: 1, Kind: api.Put}, Value: []byte("x")}, {Key: api.Key{User: []byte("b"), Seq: 2, Kind: api.Put}, Value: []byte("y")}}
	p, err := table.Build(first, nil)
	fine(t, err)
	lay(t, d, "table.3", p)
	p, err = table.Build(nil, []api.Span{{From: []byte("b"), To: []byte("c"), Seq: 3}})
	fine(t, err)
	lay(t, d, "table.4", p)
	var manifest []byte
	for _, change := range []edit.Edit{
		{Next: 4, Seq: 2, Log: 1, Add: []edit.Line{{Level: 2, Number: 3, From: []byte("a"), To: []byte("b\x00"), Last: 2}}},
		{Next: 5, Seq: 3, Log: 6, Add: []edit.Line{{Level: 0, Number: 4, From: []byte("b"), To: []byte("c"), Last: 3}}},
	} {
		p, err := edit.Bytes(change)
		fine(t, err)
		f, err := reel.Frame(len(manifest), p)
		fine(t, err)
		manifest = append(manifest, f...)
	}
	lay(t, d, "manifest.5", manifest)
	lay(t, d, "current", []byte("manifest.5"))
	log, err := entry.Log([]entry.Note{
		{Kind: entry.Write, Seq: 4, Ops: ops(put("c", "z"), put("d", "w"))},
		{Kind: entry.Prepare, Name: []byte("p"), Ops: ops(put("e", "v"))},
		{Kind: entry.Prepare, Name: []byte("q"), Ops: ops(put("f", "u"))},
		{Kind: entry.Commit, Seq: 6, Name: []byte("q")},
	})
	fine(t, err)
	lay(t, d, "log.6", log)
	for range 2 {
		e := open(t, d)
		tidy(t, d, e)
		if all(e, api.MaxSeq) != "a=x c=z d=w f=u" || held(e) != "p(2:e:v)" || e.Last() != 6 || e.Tables(0) != 1 || e.Tables(2) != 1 {
			t.Errorf("%s", told(e))
		}
	}
}
