package disk

import "bartizan/api"

// power is what a disk runs on. Its methods are for a disk that is there: of a
// nil one not even an embedded part can be asked, so that Disk looks for nil.
type power struct {
	off     bool
	left    int // changes till it goes off, that one included; 0: it stays on
	changes int
	crashes int // how many times it came back
}

// arm lets the power go off at the n-th change from now on; 0: at none.
func (p *power) arm(n int) {
	p.left = n
}

// change counts a change; ErrDown: it isn't to be done.
func (p *power) change() api.Errno {
	if p.off {
		return api.ErrDown
	}
	p.changes++
	if p.left == 0 {
		return api.OK
	}
	p.left--
	if p.left > 0 {
		return api.OK
	}
	p.off = true
	return api.ErrDown
}

// restore brings the power back, with nothing armed.
func (p *power) restore() {
	p.off = false
	p.crashes++
	p.arm(0)
}
