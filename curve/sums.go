package curve

import (
	"math/bits"

	"marlinspike/nat"
)

// far tells whether it is the far one.
func (p Point[E]) far() bool { return p.Z.IsZero() }

// scale is a point's x and y told by a Z that is z times as great. Points that
// were laid by Of have the Z 1, for which nothing needs doing.
func (c *Curve[E]) scale(p Point[E], z E) (E, E) {
	if z == c.one {
		return p.X, p.Y
	}
	square := z.Mul(z)
	return p.X.Mul(square), p.Y.Mul(square.Mul(z))
}

// chord is the sum of two points of unlike x, both told by z: x, y, and the one
// that stands across and up from it. The slope is up / (across z), so what is
// told by across z needs no division.
func chord[E Elem[E]](x, y, z, across, up E) Point[E] {
	square := across.Mul(across)
	cube := square.Mul(across)
	x = x.Mul(square)
	sum := up.Mul(up).Sub(cube).Sub(x).Sub(x)
	return Point[E]{sum, up.Mul(x.Sub(sum)).Sub(y.Mul(cube)), z.Mul(across)}
}

// twice is a point and itself together. The slope is 3 x^2 / (2 y z), so what
// is told by 2 y z needs no division; where y is 0, that is the far one.
func (p Point[E]) twice() Point[E] {
	if p.Y.IsZero() {
		return Point[E]{}
	}
	xx, yy := p.X.Mul(p.X), p.Y.Mul(p.Y)
	up := xx.Add(xx).Add(xx)
	x := four(p.X.Mul(yy))
	sum := up.Mul(up).Sub(x).Sub(x)
	cube := four(yy.Mul(yy))
	z := p.Y.Mul(p.Z)
	return Point[E]{sum, up.Mul(x.Sub(sum)).Sub(cube).Sub(cube), z.Add(z)}
}

// four is 4 times an element.
func four[E Elem[E]](x E) E {
	twice := x.Add(x)
	return twice.Add(twice)
}

// widthFor is how many bits a digit has, where count points are summed up: the
// wider it is, the fewer digits there are, but the more piles for each of them.
func widthFor(count int) int { return max(1, bits.Len(uint(count))-3) }

// digits is the points together, each as often as the width bits of its number
// from place on say. Points of the same digit come to one pile, and then, from
// the greatest digit down, a pile is in each sum of those from some digit on
// that does not begin above its own: so in as many of them as its digit says.
func (c *Curve[E]) digits(ps []Point[E], ks [][]uint64, place, width int) Point[E] {
	piles := make([]Point[E], 1<<width)
	for i, p := range ps {
		if d := digit(ks[i], place, width); d > 0 {
			piles[d] = c.Add(piles[d], p)
		}
	}
	var above, all Point[E]
	for d := len(piles) - 1; d > 0; d-- {
		above = c.Add(above, piles[d])
		all = c.Add(all, above)
	}
	return all
}

// digit is what the width bits of a number from place on are worth.
func digit(k []uint64, place, width int) (d int) {
	for i := width - 1; i >= 0; i-- {
		d = d<<1 | int(nat.Bit(k, place+i))
	}
	return d
}
