package disk_test

import (
	"math/rand"
	"slices"
	"strings"
	"testing"

	"bartizan/api"
	"bartizan/disk"
)

// plain is a disk told as plainly as can be: a list of files in the order of
// their names, each with what is synced and what isn't as two texts.
type plain struct {
	files         []plainFile
	room, changes int
	down          bool
	armed         int
}

type plainFile struct{ name, base, tail string }

func (m *plain) place(name string) int {
	return slices.IndexFunc(m.files, func(f plainFile) bool { return f.name == name })
}

func (m *plain) used() int {
	n := 0
	for _, f := range m.files {
		n += len(f.base + f.tail)
	}
	return n
}

func (m *plain) without(name string) []plainFile {
	return slices.DeleteFunc(slices.Clone(m.files), func(f plainFile) bool { return f.name == name })
}

func (m *plain) with(f plainFile) {
	m.files = append(m.without(f.name), f)
	slices.SortFunc(m.files, func(a, b plainFile) int { return strings.Compare(a.name, b.name) })
}

// goes tells whether the change that comes is the one at which the power goes, and counts it.
func (m *plain) goes() bool {
	m.changes++
	m.armed--
	m.down = m.armed == 0
	return m.down
}

// The kinds of calls of a run.
const (
	callCreate = iota
	callAppend
	callSync
	callRename
	callDelete
	callRead
	callArm
	callCrash
)

// call is one call of a run.
type call struct {
	kind     int
	name, to string
	p        []byte
	n        int
	keep     []int
	torn     byte
}

// do tells what the disk ought to answer.
func (m *plain) do(c call) api.Errno {
	at := m.place(c.name)
	switch c.kind {
	case callArm:
		if c.n < 0 {
			return api.ErrArg
		}
		m.armed = c.n
		return api.OK
	case callCrash:
		m.crash(c.keep, c.torn)
		return api.OK
	}
	if err := m.refuses(c, at); err != api.OK {
		return err
	}
	if m.down {
		return api.ErrDown
	}
	if c.kind == callRead {
		return api.OK // Read is no change
	}
	gone := m.goes()
	if c.kind == callAppend {
		m.files[at].tail += string(c.p)
	}
	if gone {
		return api.ErrDown
	}
	switch c.kind {
	case callCreate:
		m.with(plainFile{name: c.name})
	case callSync:
		f := m.files[at]
		m.with(plainFile{f.name, f.base + f.tail, ""})
	case callRename:
		f := m.files[at]
		m.files = m.without(c.name)
		m.with(plainFile{c.to, f.base, f.tail})
	case callDelete:
		m.files = m.without(c.name)
	}
	return api.OK
}

func (m *plain) refuses(c call, at int) api.Errno {
	switch {
	case c.kind == callCreate && !disk.Name(c.name), c.kind == callRename && !disk.Name(c.to):
		return api.ErrArg
	case c.kind == callCreate && at >= 0:
		return api.ErrExists
	case c.kind != callCreate && at < 0:
		return api.ErrNone
	case c.kind == callAppend && m.used()+len(c.p) > m.room:
		return api.ErrFull
	}
	return api.OK
}

func (m *plain) crash(keep []int, torn byte) {
	k := 0
	for i, f := range m.files {
		if f.tail == "" {
			continue
		}
		left := []byte(f.tail)
		switch {
		case k >= len(keep) || keep[k] <= 0:
			left = nil
		case keep[k] < len(left):
			left = left[:keep[k]]
			left[len(left)-1] ^= torn
		}
		k++
		m.files[i] = plainFile{f.name, f.base + string(left), ""}
	}
	m.armed, m.down = 0, false
}

func play(d *disk.Disk, c call) ([]byte, api.Errno) {
	switch c.kind {
	case callCreate:
		return nil, d.Create(c.name)
	case callAppend:
		return nil, d.Append(c.name, c.p)
	case callSync:
		return nil, d.Sync(c.name)
	case callRename:
		return nil, d.Rename(c.name, c.to)
	case callDelete:
		return nil, d.Delete(c.name)
	case callRead:
		return d.Read(c.name)
	case callArm:
		return nil, d.Arm(c.n)
	}
	return nil, d.Crash(c.keep, c.torn)
}

func drawn(r *rand.Rand) call {
	names := []string{"a", "b", "c", "d.0", "e-9", "Bad"}
	kinds := []int{callCreate, callCreate, callAppend, callAppend, callAppend, callAppend, callAppend, callSync, callRename, callDelete, callRead, callArm, callCrash}
	c := call{kind: kinds[r.Intn(len(kinds))], name: names[r.Intn(len(names))], to: names[r.Intn(len(names))], n: r.Intn(14) - 1, torn: byte(r.Intn(256))}
	c.p = make([]byte, r.Intn(6))
	r.Read(c.p)
	for range r.Intn(5) {
		c.keep = append(c.keep, r.Intn(9)-2)
	}
	return c
}

// Long runs of calls, by a source of numbers that are always the same.
func TestRunsAgainstAPlainModel(t *testing.T) {
	for seed := range int64(200) {
		r := rand.New(rand.NewSource(seed))
		m := &plain{room: 40}
		d := room(t, m.room)
		for step := range 200 {
			c := drawn(r)
			want := m.do(c)
			p, err := play(d, c)
			if err != want || d.On() == m.down || d.Changes() != m.changes || d.Used() != m.used() {
				t.Fatalf("seed %d, step %d, %+v: %v, want %v; %v, %d, %d, want %v, %d, %d", seed, step, c, err, want, d.On(), d.Changes(), d.Used(), !m.down, m.changes, m.used())
			}
			if at := m.place(c.name); c.kind == callRead && err == api.OK && string(p) != m.files[at].base+m.files[at].tail {
				t.Fatalf("seed %d, step %d, %+v: %q", seed, step, c, p)
			}
			compare(t, d, m)
		}
	}
}

// compare fails unless names and bytes are those of the model.
func compare(t *testing.T, d *disk.Disk, m *plain) {
	t.Helper()
	names := d.List()
	if len(names) != len(m.files) {
		t.Fatalf("List: %q, want %+v", names, m.files)
	}
	for i, f := range m.files {
		p, err := d.Read(names[i])
		if names[i] != f.name || !m.down && (err != api.OK || string(p) != f.base+f.tail) {
			t.Fatalf("%s: %q, %v, want %+v", names[i], p, err, f)
		}
	}
}
