package miller

import (
	"marlinspike/fq"
	"marlinspike/fq12"
	"marlinspike/fq2"
	"marlinspike/group"
)

// spot is a point of G2's curve that is not the far one. It stays on that curve:
// what it goes over into, (w^2 x, w^3 y), has nothing but two of its parts.
type spot struct{ x, y fq2.El }

// at is where a point is; of the far one both are 0.
func at(q group.G2) (spot, bool) {
	x, y, is := group.Curve2().Affine(q)
	return spot{x, y}, is
}

// slope is that of two, of two alike the tangent's.
func slope(a, b spot) fq2.El {
	up, across := b.y.Sub(a.y), b.x.Sub(a.x)
	if a == b {
		square := a.x.Mul(a.x)
		up, across = square.Add(square).Add(square), a.y.Add(a.y)
	}
	inverse, _ := across.Inv() // of 0 it is 0, and so is the slope
	return up.Mul(inverse)
}

// together is a and b together, by their slope, so that a step takes one inverse
// alone. No step comes to the far one: t is q so often as some first bits of X
// say, and neither those numbers nor their neighbours have a divisor in common
// with the count of all points of G2's curve.
func (a spot) together(b spot, l fq2.El) spot {
	x := l.Mul(l).Sub(a.x).Sub(b.x)
	return spot{x, l.Mul(a.x.Sub(x)).Sub(a.y)}
}

// line is the one of the slope l through a, at a point of G1's curve. Where a
// goes over, the slope is w l: of y - w^3 y(a) - w l (x - w^2 x(a)) three parts
// are not 0.
func (a spot) line(l fq2.El, x, y fq.El) fq12.El {
	var parts [6]fq2.El
	parts[0] = fq2.El{A: y}
	parts[1] = l.Mul(fq2.El{A: x}).Neg()
	parts[3] = l.Mul(a.x).Sub(a.y)
	return fq12.Join(parts)
}
