package points

import (
	"marlinspike/api"
	"marlinspike/curve"
	"marlinspike/fq"
	"marlinspike/fq2"
	"marlinspike/group"
)

// What the first byte has beside x, which leaves its seven highest bits free.
const (
	farBit   = 128
	greatBit = 64
)

// elem is what a curve's x and y are.
type elem[E any] interface {
	curve.Elem[E]
	Great() bool
	Sqrt() (E, api.Errno)
}

// room is what a point's bytes lie in.
type room interface{ [48]byte | [96]byte }

// kind is what one of both groups has of its own.
type kind[E elem[E], B room] struct {
	curve *curve.Curve[E]
	b     E // what the curve adds to x^3
	in    func(p curve.Point[E]) bool
	lay   func(x E) B
	read  func(b B) (E, api.Errno)
}

// first is G1's.
func first() kind[fq.El, [48]byte] {
	return kind[fq.El, [48]byte]{group.Curve1(), fq.Of(1), group.In1, fq.El.Bytes, fq.From}
}

// second is G2's.
func second() kind[fq2.El, [96]byte] {
	perU, _ := fq2.Of(0, 1).Inv()
	return kind[fq2.El, [96]byte]{group.Curve2(), perU, group.In2, layPair, readPair}
}

// layPair are an element's bytes, those of B ahead.
func layPair(x fq2.El) (b [96]byte) {
	ahead, behind := x.B.Bytes(), x.A.Bytes()
	copy(b[:], ahead[:])
	copy(b[len(ahead):], behind[:])
	return b
}

// readPair is the element of bytes.
func readPair(b [96]byte) (fq2.El, api.Errno) {
	var ahead, behind [48]byte
	copy(ahead[:], b[:])
	copy(behind[:], b[len(ahead):])
	u, e := fq.From(ahead)
	if e != api.OK {
		return fq2.El{}, e
	}
	plain, e := fq.From(behind)
	if e != api.OK {
		return fq2.El{}, e
	}
	return fq2.El{A: plain, B: u}, api.OK
}

// put are a point's bytes.
func put[E elem[E], B room](k kind[E, B], p curve.Point[E]) B {
	x, y, is := k.curve.Affine(p)
	b := k.lay(x) // of the far one Affine tells 0
	switch {
	case !is:
		b[0] |= farBit
	case y.Great():
		b[0] |= greatBit
	}
	return b
}

// get is the point of bytes.
func get[E elem[E], B room](k kind[E, B], b B) (curve.Point[E], api.Errno) {
	var none curve.Point[E]
	if b[0]&farBit != 0 {
		if b != put(k, none) {
			return none, api.ErrForm
		}
		return none, api.OK
	}
	great := b[0]&greatBit != 0
	b[0] &^= greatBit
	x, e := k.read(b)
	if e != api.OK {
		return none, e
	}
	y, e := x.Mul(x).Mul(x).Add(k.b).Sqrt() // the root that is not great
	switch {
	case e != api.OK:
		return none, api.ErrCurve
	case great && y.IsZero():
		return none, api.ErrForm // 0 is its own negative: the point's bytes have no 64
	case great:
		y = y.Neg()
	}
	p, _ := k.curve.Of(x, y)
	if !k.in(p) {
		return none, api.ErrGroup
	}
	return p, api.OK
}
