package group

import (
	"marlinspike/api"
	"marlinspike/curve"
	"marlinspike/fq"
	"marlinspike/fq2"
	"marlinspike/fr"
	"marlinspike/nat"
)

// rooted is a field's element that may have a root.
type rooted[E any] interface {
	curve.Elem[E]
	Sqrt() (E, api.Errno)
}

// b1 is what G1's curve adds to x^3.
func b1() fq.El { return fq.Of(1) }

// b2 is what G2's curve adds to x^3.
func b2() fq2.El {
	perU, _ := fq2.Of(0, 1).Inv()
	return perU
}

// number is what a polynomial is worth at X, by a divisor that goes into it.
// Its coefficients are told the highest first. Those of the cofactors are so
// small beside X that no sum on the way is below 0.
func number(divisor uint64, coefficients ...int64) []uint64 {
	var sum []uint64
	for _, n := range coefficients {
		sum, _ = nat.Mul(sum, nat.Of(api.X))
		if n < 0 {
			sum, _ = nat.Sub(sum, nat.Of(uint64(-n)))
		} else {
			sum, _ = nat.Add(sum, nat.Of(uint64(n)))
		}
	}
	often, _, _ := nat.DivMod(sum, nat.Of(divisor))
	return often
}

// generator goes through the x that at tells, to the first one for which there
// is a point that so often as the cofactor says is not the far one: it is that
// point, so often.
func generator[E rooted[E]](c *curve.Curve[E], b E, cofactor []uint64, at func(n int64) E) curve.Point[E] {
	var far curve.Point[E]
	step := func(x E) curve.Point[E] {
		y, e := x.Mul(x).Mul(x).Add(b).Sqrt() // the root that is not great
		if e != api.OK {
			return far
		}
		p, _ := c.Of(x, y)
		return c.Mul(p, cofactor)
	}
	for n := int64(0); ; n++ {
		if p := step(at(n)); !c.Same(p, far) {
			return p
		}
	}
}

// within tells whether a point of the curve is of the group.
func within[E curve.Elem[E]](c *curve.Curve[E], p curve.Point[E]) bool {
	return c.Same(c.Mul(p, fr.Modulus()), curve.Point[E]{})
}
