package engine

import (
	"slices"
	"strconv"

	"bartizan/api"
	"bartizan/disk"
	"bartizan/reel"
)

const (
	current = "current" // the manifest's name
	fresh   = "fresh"   // what becomes current
)

func manifestName(n uint64) string {
	return "manifest." + strconv.FormatUint(n, 10)
}

func logName(n uint64) string {
	return "log." + strconv.FormatUint(n, 10)
}

func tableName(n uint64) string {
	return "table." + strconv.FormatUint(n, 10)
}

// file is a file that is to be.
type file struct {
	name string
	data []byte
}

// create makes the files, so that they outlast a crash: all of them or, unless
// the power goes, none.
func create(d *disk.Disk, files ...file) api.Errno {
	var made []string
	for _, f := range files {
		if err := createOne(d, f); err != api.OK {
			return discard(d, err, made...)
		}
		made = append(made, f.name)
	}
	return api.OK
}

func createOne(d *disk.Disk, f file) api.Errno {
	if err := d.Create(f.name); err != api.OK {
		return err
	}
	if err := write(d, f); err != api.OK {
		return discard(d, err, f.name)
	}
	return api.OK
}

// write puts the bytes behind those that the file has, so that they outlast a crash.
func write(d *disk.Disk, f file) api.Errno {
	if err := d.Append(f.name, f.data); err != api.OK {
		return err
	}
	return d.Sync(f.name)
}

// discard deletes the files, and answers why that had to be, unless the power goes meanwhile.
func discard(d *disk.Disk, why api.Errno, names ...string) api.Errno {
	for _, name := range names {
		if err := d.Delete(name); err != api.OK {
			return err
		}
	}
	return why
}

// sweep deletes all files but those.
func sweep(d *disk.Disk, but []string) api.Errno {
	others := slices.DeleteFunc(d.List(), func(name string) bool { return slices.Contains(but, name) })
	return discard(d, api.OK, others...)
}

// tape is a file that is a reel.
type tape struct {
	name string
	size int
}

// add puts one more record on the tape, so that it outlasts a crash.
func (t *tape) add(d *disk.Disk, record []byte) api.Errno {
	p, err := reel.Frame(t.size, record)
	if err != api.OK {
		return err
	}
	if err := write(d, file{t.name, p}); err != api.OK {
		return err
	}
	t.size += len(p)
	return api.OK
}
