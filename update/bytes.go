package update

import (
	"marlinspike/api"
	"marlinspike/points"
)

// How many bytes there are of A, and of a step: D takes 96.
const (
	firstBytes = 48
	stepBytes  = firstBytes + 96
)

// text are a step's bytes.
func (s Step) text() []byte {
	a, d := points.Put1(s.A), points.Put2(s.D)
	return append(a[:], d[:]...)
}

// count is how many steps bytes tell, if they are as many as those take.
func count(b []byte) (int, api.Errno) {
	if len(b) == 0 {
		return 0, api.ErrShort
	}
	n := int(b[0])
	all := 1 + n*stepBytes
	switch {
	case n > api.MaxChain:
		return 0, api.ErrLong
	case len(b) < all:
		return 0, api.ErrShort
	case len(b) > all:
		return 0, api.ErrLong
	}
	return n, api.OK
}

// read is the step that bytes begin with, or else the first point's error.
func read(b []byte) (Step, api.Errno) {
	a, e := points.Get1([firstBytes]byte(b[:firstBytes]))
	if e != api.OK {
		return Step{}, e
	}
	d, e := points.Get2([stepBytes - firstBytes]byte(b[firstBytes:stepBytes]))
	if e != api.OK {
		return Step{}, e
	}
	return Step{a, d}, api.OK
}
