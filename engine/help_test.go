package engine_test

import (
	"bytes"
	"fmt"
	"slices"
	"strings"
	"testing"

	"bartizan/api"
	"bartizan/disk"
	"bartizan/edit"
	"bartizan/engine"
	"bartizan/table"
)

func put(key, value string) api.Op {
	return api.Op{Kind: api.Put, Key: []byte(key), Value: []byte(value)}
}

func del(key string) api.Op {
	return api.Op{Kind: api.Delete, Key: []byte(key)}
}

func span(from, to string) api.Op {
	return api.Op{Kind: api.Range, Key: []byte(from), Value: []byte(to)}
}

func ops(l ...api.Op) []api.Op {
	return l
}

// many answers so many puts of one key.
func many(count int, key string) []api.Op {
	var l []api.Op
	for i := range count {
		l = append(l, put(key, fmt.Sprint(i)))
	}
	return l
}

// numbered answers puts of the keys k000, k001 and so on, from the first on.
func numbered(first, count int) []api.Op {
	var l []api.Op
	for i := range count {
		l = append(l, put(fmt.Sprintf("k%03d", first+i), fmt.Sprint(i)))
	}
	return l
}

// fine fails unless nothing was refused.
func fine(t *testing.T, errs ...api.Errno) {
	t.Helper()
	for i, err := range errs {
		if err != api.OK {
			t.Fatalf("call %d answered %d", i, err)
		}
	}
}

// is fails unless the error is the one that is wanted.
func is(t *testing.T, what string, err, want api.Errno) {
	t.Helper()
	if err != want {
		t.Errorf("%s answered %d, want %d", what, err, want)
	}
}

// room answers a disk.
func room(t *testing.T, size int) *disk.Disk {
	t.Helper()
	d, err := disk.New(size)
	fine(t, err)
	return d
}

// store answers an empty store whose Last is seq, and its disk.
func store(t *testing.T, seq uint64) (*engine.Engine, *disk.Disk) {
	t.Helper()
	d := room(t, api.MaxDisk)
	fine(t, engine.Format(d, seq))
	return open(t, d), d
}

func open(t *testing.T, d *disk.Disk) *engine.Engine {
	t.Helper()
	e, err := engine.Open(d)
	if err != api.OK || e == nil {
		t.Fatalf("Open answered %d, %t", err, e != nil)
	}
	return e
}

// text tells pairs.
func text(l []api.Pair) string {
	var all []string
	for _, p := range l {
		all = append(all, string(p.Key)+"="+string(p.Value))
	}
	return strings.Join(all, " ")
}

// all tells what is seen as of seq.
func all(e *engine.Engine, seq uint64) string {
	return text(e.Scan(nil, nil, 1<<30, false, seq))
}

func opText(l []api.Op) string {
	var all []string
	for _, o := range l {
		all = append(all, fmt.Sprintf("%d:%s:%s", o.Kind, o.Key, o.Value))
	}
	return strings.Join(all, ",")
}

// held tells what is held.
func held(e *engine.Engine) string {
	var all []string
	for _, h := range e.Held() {
		all = append(all, string(h.Name)+"("+opText(h.Ops)+")")
	}
	return strings.Join(all, " ")
}

// told is all that the calls that answer no error tell.
func told(e *engine.Engine) string {
	return fmt.Sprint(all(e, api.MaxSeq), "|", held(e), "|", e.Last(), e.Fresh(), e.Tables(0), e.Tables(1), e.Tables(2))
}

// image is all that a disk has.
func image(t *testing.T, d *disk.Disk) string {
	t.Helper()
	var b strings.Builder
	for _, name := range d.List() {
		p, err := d.Read(name)
		fine(t, err)
		fmt.Fprintf(&b, "%s %x\n", name, p)
	}
	return b.String()
}

// files reads the state that the disk tells.
func files(t *testing.T, d *disk.Disk) *edit.State {
	t.Helper()
	name, err := d.Read("current")
	fine(t, err)
	if !strings.HasPrefix(string(name), "manifest.") {
		t.Fatalf("current is %q", name)
	}
	p, err := d.Read(string(name))
	fine(t, err)
	s, count := edit.Replay(p)
	if count == 0 {
		t.Fatalf("%s has no edits", name)
	}
	return s
}

// tableOf reads the table of that number.
func tableOf(t *testing.T, d *disk.Disk, n uint64) *table.Table {
	t.Helper()
	p, err := d.Read(fmt.Sprintf("table.%d", n))
	fine(t, err)
	x, err := table.Open(p)
	fine(t, err)
	return x
}

// tidy fails unless the disk has the store's files alone, and they are what the state says.
func tidy(t *testing.T, d *disk.Disk, e *engine.Engine) {
	t.Helper()
	s := files(t, d)
	name, _ := d.Read("current")
	want := []string{"current", string(name), fmt.Sprintf("log.%d", s.Whole().Log)}
	for _, l := range s.Whole().Add {
		want = append(want, fmt.Sprintf("table.%d", l.Number))
		x := tableOf(t, d, l.Number)
		from, to := x.Bounds()
		if !bytes.Equal(from, l.From) || !bytes.Equal(to, l.To) || x.Last() != l.Last {
			t.Fatalf("table %d has %q, %q, %d; its line %v", l.Number, from, to, x.Last(), l)
		}
	}
	slices.Sort(want)
	if !slices.Equal(d.List(), want) {
		t.Fatalf("the disk has %v, want %v", d.List(), want)
	}
	for level := range api.Levels {
		if len(s.Level(level)) != e.Tables(level) {
			t.Fatalf("level %d has %d tables, but tells %d", level, len(s.Level(level)), e.Tables(level))
		}
	}
}
