package marlin_test

import (
	"math/big"
	"slices"

	"marlinspike/api"
	"marlinspike/pad"
)

// The index and the rounds once more, by chapters 24 and 25: polynomials are lists of
// numbers, and all that is done with them goes scalar by scalar.

// nonSquare is the least number from 2 on that is no square by r.
var nonSquare = func() *big.Int {
	half := new(big.Int).Rsh(r, 1)
	for n := int64(2); ; n++ {
		if new(big.Int).Exp(whole(n), half, r).Cmp(whole(1)) != 0 {
			return whole(n)
		}
	}
}()

// elementsOf are those of the domain of n, in order.
func elementsOf(n int) []*big.Int {
	exponent := new(big.Int).Div(minus(1), whole(int64(n)))
	g := new(big.Int).Exp(nonSquare, exponent, r)
	l := []*big.Int{whole(1)}
	for len(l) < n {
		l = append(l, times(l[len(l)-1], g))
	}
	return l
}

// v is z^n - 1.
func v(n int, z *big.Int) *big.Int { return less(raised(z, n), whole(1)) }

// u is the quotient of differences; of two alike n y^(n - 1).
func u(n int, y, z *big.Int) *big.Int {
	if same(y, z) {
		return times(whole(int64(n)), raised(y, n-1))
	}
	return per(less(v(n, y), v(n, z)), less(y, z))
}

// inForm is a polynomial without the zeros at its end.
func inForm(p []*big.Int) []*big.Int {
	for len(p) > 0 && p[len(p)-1].Sign() == 0 {
		p = p[:len(p)-1]
	}
	return p
}

// worth is what a polynomial is at z.
func worth(p []*big.Int, z *big.Int) *big.Int {
	sum := whole(0)
	for _, x := range slices.Backward(p) {
		sum = mod(sum.Mul(sum, z).Add(sum, x))
	}
	return sum
}

// added are polynomials together, scaled each scalar times k, multiplied a product.
func added(ps ...[]*big.Int) (sum []*big.Int) {
	for _, p := range ps {
		for i, x := range p {
			if i == len(sum) {
				sum = append(sum, whole(0))
			}
			sum[i] = plus(sum[i], x)
		}
	}
	return inForm(sum)
}

func scaled(k *big.Int, p []*big.Int) (l []*big.Int) {
	for _, x := range p {
		l = append(l, times(k, x))
	}
	return inForm(l)
}

func multiplied(ps ...[]*big.Int) []*big.Int {
	product := wholes(1)
	for _, p := range ps {
		var next []*big.Int
		for range len(product) + len(p) {
			next = append(next, whole(0))
		}
		for i, x := range product {
			for j, y := range p {
				next[i+j].Add(next[i+j], times(x, y))
			}
		}
		product = scaled(whole(1), next)
	}
	return product
}

// higher is a polynomial times a power of Y.
func higher(p []*big.Int, n int) []*big.Int { return append(repeat(whole(0), n), p...) }

// vanishing is Y^n - 1.
func vanishing(n int) []*big.Int { return added(wholes(-1), higher(wholes(1), n)) }

// divided are quotient and rest by another polynomial whose highest scalar is 1 or -1:
// what stands highest goes away, over and over.
func divided(p, q []*big.Int) (quotient, rest []*big.Int) {
	for _, x := range p {
		rest = append(rest, mod(x))
	}
	degree := len(q) - 1
	for i := len(p) - 1; i >= degree; i-- {
		x := times(rest[i], q[degree])
		quotient = append(quotient, x)
		for j, y := range q {
			if y.Sign() != 0 {
				rest[i-degree+j] = less(rest[i-degree+j], times(x, y))
			}
		}
	}
	slices.Reverse(quotient)
	return inForm(quotient), inForm(rest)
}

// through is the polynomial that is worth values on the domain of so many elements.
func through(values []*big.Int) (p []*big.Int) {
	m := len(values)
	k := elementsOf(m)
	for i := range m {
		sum := whole(0)
		for j, y := range values {
			if y.Sign() != 0 {
				sum = plus(sum, times(y, k[(m-i)*j%m]))
			}
		}
		p = append(p, per(sum, whole(int64(m))))
	}
	return inForm(p)
}

// worthOn is what the polynomial of at most n scalars is worth at z, that is not of the
// domain of n, whose values there are these, and 0 behind them.
func worthOn(n int, values []*big.Int, z *big.Int) *big.Int {
	sum, elements := whole(0), elementsOf(n)
	for i, y := range values {
		sum = plus(sum, per(times(y, elements[i]), less(z, elements[i])))
	}
	return per(times(v(n, z), sum), whole(int64(n)))
}

// lower is a polynomial less its scalar of 1, over Y.
func lower(p []*big.Int) []*big.Int { return p[min(1, len(p)):] }

// matrix are the values of row, col and val of one matrix at K's elements; or those three
// polynomials.
type matrix struct{ row, col, val []*big.Int }

// matrixOf are those of padded entries.
func matrixOf(n, m int, entries []api.Entry) (x matrix) {
	h := elementsOf(n)
	for k := range m {
		if k >= len(entries) {
			x.row, x.col, x.val = append(x.row, whole(1)), append(x.col, whole(1)), append(x.val, whole(0))
			continue
		}
		row, col := h[entries[k].Row], h[entries[k].Col]
		val := per(numberOf(entries[k].Val), u(n, col, col))
		x.row, x.col, x.val = append(x.row, row), append(x.col, col), append(x.val, val)
	}
	return x
}

// indexed is an index: of each matrix values on K, and polynomials.
type indexed struct {
	n, m          int
	values, polys [3]matrix
}

// indexedOf is a shape's.
func indexedOf(s pad.Shape) indexed {
	x := indexed{n: s.N, m: s.M}
	for i := range 3 {
		l := matrixOf(s.N, s.M, s.Rows[i])
		x.values[i], x.polys[i] = l, matrix{through(l.row), through(l.col), through(l.val)}
	}
	return x
}

// nine are its polynomials, in the order of a key's bytes.
func (x indexed) nine() (l [9][]*big.Int) {
	for i, p := range x.polys {
		l[i], l[3+i], l[6+i] = p.row, p.col, p.val
	}
	return l
}

// inSecond is the polynomial u(y, Z), or u(Z, y): v(y) less v(Z), by y - Z.
func inSecond(n int, y *big.Int) (p []*big.Int) {
	for i := range n {
		p = append(p, raised(y, n-1-i))
	}
	return p
}

// poly is the polynomial of the index's sum at a.
func (x indexed) poly(e [3]*big.Int, a *big.Int) (sum []*big.Int) {
	for i, l := range x.values {
		for k, val := range l.val {
			if val.Sign() != 0 && e[i].Sign() != 0 {
				sum = added(sum, scaled(times(e[i], val, u(x.n, a, l.row[k])), inSecond(x.n, l.col[k])))
			}
		}
	}
	return inForm(sum)
}

// rowsOf are the rows' sums of a matrix.
func rowsOf(n int, m []api.Entry, z []*big.Int) []*big.Int {
	sums := repeat(whole(0), n)
	for _, x := range m {
		sums[x.Row] = plus(sums[x.Row], times(numberOf(x.Val), z[x.Col]))
	}
	return sums
}

// first is a first round, second a second one, third a third one.
type (
	first  struct{ z, w, a, b, s []*big.Int }
	second struct{ t, g, h []*big.Int }
	third  struct{ f, g, h []*big.Int }
)

// firstOf is that of a padded assignment.
func firstOf(s pad.Shape, z, d []*big.Int) (p first) {
	masked := func(values []*big.Int, draw *big.Int) []*big.Int {
		return added(through(values), scaled(draw, vanishing(s.N)))
	}
	p.z = masked(z, d[0])
	p.a, p.b = masked(rowsOf(s.N, s.Rows[0], z), d[1]), masked(rowsOf(s.N, s.Rows[1], z), d[2])
	var on []*big.Int
	for j := range s.X {
		on = append(on, z[j*s.N/s.X])
	}
	p.w, _ = divided(added(p.z, scaled(minus(1), through(on))), vanishing(s.X))
	sum := whole(0)
	rest := append(wholes(0), d[3:3+2*s.N]...)
	for _, z := range elementsOf(s.N) {
		sum = plus(sum, worth(rest, z))
	}
	rest[0] = per(less(whole(0), sum), whole(int64(s.N)))
	p.s = inForm(rest)
	return p
}

// q is the polynomial Q at a.
func (x indexed) q(p first, a *big.Int, e [3]*big.Int) []*big.Int {
	rows := added(scaled(e[0], p.a), scaled(e[1], p.b), scaled(e[2], multiplied(p.a, p.b)))
	return added(p.s, multiplied(inSecond(x.n, a), rows), scaled(minus(1), multiplied(x.poly(e, a), p.z)))
}

// secondOf is that at a, or false, if the rest has a scalar of 1.
func (x indexed) secondOf(p first, a *big.Int, e [3]*big.Int) (second, bool) {
	high, rest := divided(x.q(p, a, e), vanishing(x.n))
	if len(rest) > 0 && rest[0].Sign() != 0 {
		return second{}, false
	}
	return second{x.poly(e, a), lower(rest), high}, true
}

// fraction is what f is worth at the j-th element of K.
func (x indexed) fraction(j int, a, b *big.Int, e [3]*big.Int) *big.Int {
	sum := whole(0)
	for i, l := range x.values {
		under := times(less(a, l.row[j]), less(b, l.col[j]))
		sum = plus(sum, per(times(e[i], l.val[j]), under))
	}
	return times(v(x.n, a), v(x.n, b), sum)
}

// denominator is a matrix's polynomial.
func (x indexed) denominator(i int, a, b *big.Int) []*big.Int {
	from := func(z *big.Int, p []*big.Int) []*big.Int { return added([]*big.Int{z}, scaled(minus(1), p)) }
	return multiplied(from(a, x.polys[i].row), from(b, x.polys[i].col))
}

// thirdOf is that at b.
func (x indexed) thirdOf(a *big.Int, e [3]*big.Int, b *big.Int) (p third) {
	var fractions []*big.Int
	for j := range x.m {
		fractions = append(fractions, x.fraction(j, a, b, e))
	}
	p.f = through(fractions)
	p.g = lower(p.f)
	of := [3][]*big.Int{x.denominator(0, a, b), x.denominator(1, a, b), x.denominator(2, a, b)}
	all := scaled(minus(1), multiplied(p.f, of[0], of[1], of[2]))
	for i, others := range [3][2]int{{1, 2}, {0, 2}, {0, 1}} {
		upper := scaled(times(v(x.n, a), v(x.n, b), e[i]), x.polys[i].val)
		all = added(all, multiplied(upper, of[others[0]], of[others[1]]))
	}
	p.h, _ = divided(all, vanishing(x.m))
	return p
}
