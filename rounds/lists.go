package rounds

import (
	"slices"

	"marlinspike/api"
	"marlinspike/domain"
	"marlinspike/fr"
	"marlinspike/poly"
)

// together is the sum of polynomials.
func together(ps ...[]fr.El) (sum []fr.El) {
	for _, p := range ps {
		sum = poly.Add(sum, p)
	}
	return sum
}

// product is that of polynomials, by what they are worth at as many places as it has
// scalars, or more: of long ones all pairs of scalars would take far longer.
func product(ps ...[]fr.El) []fr.El {
	scalars := 1
	for _, p := range ps {
		if len(p) == 0 {
			return nil
		}
		scalars += len(p) - 1
	}
	n := 1
	for n < scalars {
		n *= 2
	}
	all := values(ps[0], n)
	for _, p := range ps[1:] {
		for i, x := range values(p, n) {
			all[i] = all[i].Mul(x)
		}
	}
	return through(all)
}

// values are what a polynomial of at most n scalars is worth at the powers of fr.Root(n),
// n being a power of 2. Where there is no domain of so many, it goes by halves as domains
// do: the scalars at even places and those at odd ones are polynomials of Y^2.
func values(p []fr.El, n int) []fr.El {
	if d, e := domain.New(n); e == api.OK {
		return d.Values(p)
	}
	var halves [2][]fr.El
	for i, x := range p {
		halves[i%2] = append(halves[i%2], x)
	}
	even, odd := values(halves[0], n/2), values(halves[1], n/2)
	root, _ := fr.Root(n)
	power := fr.Of(1)
	for i, x := range odd {
		x = x.Mul(power)
		even[i], odd[i] = even[i].Add(x), even[i].Sub(x)
		power = power.Mul(root)
	}
	return slices.Concat(even, odd)
}

// through is the polynomial of values: n times its i-th scalar is what the polynomial
// that has the values as scalars is worth at the place -i.
func through(l []fr.El) []fr.El {
	turned := values(l, len(l))
	slices.Reverse(turned[1:])
	part, _ := fr.Of(int64(len(l))).Inv()
	return poly.Scale(turned, part)
}
