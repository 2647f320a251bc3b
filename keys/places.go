package keys

import (
	"iter"

	"marlinspike/api"
	"marlinspike/group"
	"marlinspike/points"
)

// keyBytes are how many bytes a key has: three numbers of 4 and two of 2, ten points of
// G1 and one of G2.
const keyBytes = 3*4 + 2*2 + 10*48 + 96

// place is where a key has a point: of G1, or else of G2.
type place struct {
	one *group.G1
	two *group.G2
}

// places are those of all its points, in the order of its bytes.
func (k *Key) places() iter.Seq[place] {
	return func(yield func(at place) bool) {
		if !yield(place{one: &k.Blind}) || !yield(place{two: &k.Tau}) {
			return
		}
		for _, at := range k.commitments() {
			if !yield(place{one: at}) {
				return
			}
		}
	}
}

// commitments are where it has those, in the order of its bytes, each by its number.
func (k *Key) commitments() iter.Seq2[int, *group.G1] {
	return func(yield func(i int, at *group.G1) bool) {
		for i, three := range [3]*[3]group.G1{&k.Row, &k.Col, &k.Val} {
			for j := range three {
				if !yield(len(three)*i+j, &three[j]) {
					return
				}
			}
		}
	}
}

// text are the bytes of the point at a place.
func (at place) text() []byte {
	if at.two != nil {
		b := points.Put2(*at.two)
		return b[:]
	}
	b := points.Put1(*at.one)
	return b[:]
}

// read puts the point there that bytes begin with, and tells the bytes behind it.
func (at place) read(b []byte) (rest []byte, e api.Errno) {
	if at.two != nil {
		var text [96]byte
		rest = b[copy(text[:], b):]
		*at.two, e = points.Get2(text)
		return rest, e
	}
	var text [48]byte
	rest = b[copy(text[:], b):]
	*at.one, e = points.Get1(text)
	return rest, e
}
