package proof

import (
	"iter"

	"marlinspike/api"
	"marlinspike/decide"
	"marlinspike/fr"
	"marlinspike/group"
	"marlinspike/points"
)

// proofBytes are how many bytes a proof has: thirteen points, the 18 values and Blind.
const proofBytes = 13*48 + 19*32

// place is where a proof has a part: a point, or else a scalar.
type place struct {
	point  *group.G1
	scalar *fr.El
}

// places are those of all its parts, in the order of its bytes.
func (p *Proof) places() iter.Seq[place] {
	return func(yield func(at place) bool) {
		for _, at := range [11]*group.G1{&p.W, &p.A, &p.B, &p.S, &p.T, &p.G1, &p.G1s, &p.H1, &p.G2, &p.G2s, &p.H2} {
			if !yield(place{point: at}) {
				return
			}
		}
		for at := range worth(&p.V) {
			if !yield(place{scalar: at}) {
				return
			}
		}
		_ = yield(place{scalar: &p.Blind}) && yield(place{point: &p.Wb}) && yield(place{point: &p.Wg})
	}
}

// worth are where values have their scalars, in the order of a proof's bytes.
func worth(v *decide.Values) iter.Seq[*fr.El] {
	return func(yield func(at *fr.El) bool) {
		for _, at := range [18]*fr.El{
			&v.W, &v.A, &v.B, &v.S, &v.T, &v.G1, &v.H1,
			&v.Row[0], &v.Row[1], &v.Row[2], &v.Col[0], &v.Col[1], &v.Col[2], &v.Val[0], &v.Val[1], &v.Val[2],
			&v.G2, &v.H2,
		} {
			if !yield(at) {
				return
			}
		}
	}
}

// text are the bytes of the part at a place.
func (at place) text() []byte {
	if at.point != nil {
		return Points(*at.point)
	}
	return Scalars(*at.scalar)
}

// read puts the part there that bytes begin with, and tells the bytes behind it. What is
// wrong with it is thrown.
func (at place) read(b []byte) (rest []byte) {
	var wrong api.Errno
	if at.point != nil {
		var text [48]byte
		rest = b[copy(text[:], b):]
		*at.point, wrong = points.Get1(text)
	} else {
		var text api.Scalar
		rest = b[copy(text[:], b):]
		*at.scalar, wrong = fr.From(text)
	}
	if wrong != api.OK {
		panic(wrong)
	}
	return rest
}
