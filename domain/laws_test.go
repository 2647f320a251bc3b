package domain_test

import (
	"strconv"
	"testing"

	"marlinspike/api"
	"marlinspike/fr"
	"marlinspike/poly"
)

// P14.5

// Values and polynomials of at most n scalars are each other's; a longer one comes
// back as its rest.
func TestThereAndBack(t *testing.T) {
	for _, n := range append(sizes(), 1024) {
		d := of(t, n)
		for _, p := range some(n) {
			back := wantPoly(t, text(p), d, d.Values(p))
			_, left := d.DivV(p)
			want(t, strconv.Itoa(n)+": back, of "+text(p), back, rest(p, n))
			want(t, strconv.Itoa(n)+": back, of "+text(p), back, left)
			if count(p) <= n {
				want(t, strconv.Itoa(n)+": back, of a short one, "+text(p), back, p)
			}
		}
		for _, l := range values(n) {
			wantAll(t, strconv.Itoa(n)+": back, of values "+text(l), d.Values(wantPoly(t, text(l), d, l)), l)
		}
	}
}

func TestValuesGoBySumsAndProducts(t *testing.T) {
	for _, n := range sizes() {
		d := of(t, n)
		for _, p := range some(n) {
			atP := d.Values(p)
			for _, q := range some(n) {
				what := strconv.Itoa(n) + ": " + text(p) + " and " + text(q)
				atQ := d.Values(q)
				sums, differences, products := zeros(n), zeros(n), zeros(n)
				for i := range atP {
					sums[i], differences[i], products[i] = atP[i].Add(atQ[i]), atP[i].Sub(atQ[i]), atP[i].Mul(atQ[i])
				}
				wantAll(t, "the sum of "+what, d.Values(poly.Add(p, q)), sums)
				wantAll(t, "the difference of "+what, d.Values(poly.Sub(p, q)), differences)
				product := poly.Mul(p, q)
				wantAll(t, "the product of "+what, d.Values(product), products)
				_, left := d.DivV(product)
				want(t, "back, of the products of "+what, wantPoly(t, what, d, products), left)
				if len(product) <= n {
					want(t, "back, of the products of "+what, wantPoly(t, what, d, products), product)
				}
			}
		}
	}
}

// The values together are n times the sum of the scalars at 0, n, 2 n, ..
func TestValuesTogether(t *testing.T) {
	for _, n := range append(sizes(), 1024, api.MaxDomain) {
		d := of(t, n)
		for i, p := range some(n) {
			if n == api.MaxDomain && i%5 != 0 {
				continue
			}
			var together, wanted fr.El
			for _, x := range d.Values(p) {
				together = together.Add(x)
			}
			for j := 0; j < len(p); j += n {
				wanted = wanted.Add(p[j])
			}
			wantScalar(t, strconv.Itoa(n)+": the values of "+text(p)+" together", together, wanted.Mul(fr.Of(int64(n))))
		}
	}
}

// The Lagrange polynomials, by values, are the polynomial that has them.
func TestLagrangePolynomialsTogether(t *testing.T) {
	for _, n := range sizes() {
		d := of(t, n)
		for _, z := range places(t, n) {
			var all, byElement fr.El
			for i := range n {
				all = all.Add(d.Lagrange(i, z))
				byElement = byElement.Add(d.Lagrange(i, z).Mul(d.At(i)))
			}
			wantScalar(t, strconv.Itoa(n)+": all of them at "+big10(z), all, fr.Of(1))
			if n > 1 {
				wantScalar(t, strconv.Itoa(n)+": by elements at "+big10(z), byElement, z)
			}
			for _, l := range values(n) {
				var sum fr.El
				for i, x := range l {
					sum = sum.Add(x.Mul(d.Lagrange(i-n, z)))
				}
				wantScalar(t, strconv.Itoa(n)+": by "+text(l)+" at "+big10(z), worth(wantPoly(t, text(l), d, l), z), sum)
			}
		}
	}
}

// u takes its two in any order, and is told by what it is worth at the elements,
// as it is 0 of two that are not alike.
func TestUAndLagrange(t *testing.T) {
	for _, n := range []int{1, 2, 4, 8} {
		d := of(t, n)
		for _, y := range places(t, n) {
			for _, z := range places(t, n) {
				what := strconv.Itoa(n) + ": u of " + big10(y) + " and " + big10(z)
				wantScalar(t, what+", turned", d.U(y, z), d.U(z, y))
				wantScalar(t, what+", times the difference", d.U(y, z).Mul(y.Sub(z)), d.V(y).Sub(d.V(z)))
				var all fr.El
				for i := range n {
					x := d.At(i)
					all = all.Add(d.U(x, x).Mul(d.Lagrange(i, y)).Mul(d.Lagrange(i, z)))
				}
				wantScalar(t, what+", by its values", d.U(y, z), all)
			}
		}
	}
}

// Each second element of a domain is one of that of half as many, and v goes over.
func TestDomainsWithinDomains(t *testing.T) {
	for n := 1; n < api.MaxDomain; n *= 2 {
		half, whole := of(t, n), of(t, 2*n)
		for _, i := range []int{0, 1, 2, n - 1, n, -1, -n} {
			wantScalar(t, strconv.Itoa(n)+": At("+strconv.Itoa(i)+")", half.At(i), whole.At(2*i))
			wantScalar(t, strconv.Itoa(n)+": negatives", whole.At(i+n), whole.At(i).Neg())
			wantScalar(t, strconv.Itoa(n)+": inverses", whole.At(-i).Mul(whole.At(i)), fr.Of(1))
		}
		for _, z := range places(t, n) {
			v := half.V(z)
			wantScalar(t, strconv.Itoa(n)+": v of twice as many", whole.V(z), v.Mul(v.Add(fr.Of(2))))
			wantScalar(t, strconv.Itoa(n)+": v of squares", whole.V(z), half.V(z.Mul(z)))
		}
	}
}

// v is worth what MulV of 1 is, and whatever MulV tells is 0 at all elements.
func TestWhatVanishes(t *testing.T) {
	for _, n := range sizes() {
		d := of(t, n)
		for _, p := range some(n) {
			product := d.MulV(p)
			wantAll(t, strconv.Itoa(n)+": values of a product", d.Values(product), zeros(n))
			for _, z := range places(t, n) {
				wantScalar(t, strconv.Itoa(n)+": a product at "+big10(z), worth(product, z), worth(p, z).Mul(d.V(z)))
			}
			quotient, left := d.DivV(product)
			want(t, "MulV and back", quotient, p)
			want(t, "MulV and back, the rest", left, nil)
		}
	}
}
