package disk

// file is a file's bytes, and how many of them would outlast a crash.
type file struct {
	data   []byte
	synced int
}

// tail answers how many bytes weren't there when the file was synced last.
func (f *file) tail() int {
	return len(f.data) - f.synced
}

func (f *file) sync() {
	f.synced = len(f.data)
}

// crash leaves of the tail its first keep bytes. A piece that was cut short is
// torn at its end: what was being written there is not what was meant.
func (f *file) crash(keep int, torn byte) {
	tail := f.tail()
	kept := min(max(keep, 0), tail)
	f.data = f.data[:f.synced+kept]
	if kept > 0 && kept < tail {
		f.data[len(f.data)-1] ^= torn
	}
	f.sync()
}
