package rounds

import (
	"slices"

	"marlinspike/api"
	"marlinspike/domain"
	"marlinspike/fr"
	"marlinspike/poly"
)

// domains are H, X's and K.
func domains(n, x, m int) (all [3]*domain.Domain, e api.Errno) {
	for i, size := range [3]int{n, x, m} {
		if all[i], e = domain.New(size); e != api.OK {
			return [3]*domain.Domain{}, e
		}
	}
	return all, api.OK
}

// each is what is made of each matrix.
func each(of func(i int) []fr.El) (l [3][]fr.El) {
	for i := range l {
		l[i] = of(i)
	}
	return l
}

// blind is the polynomial of 2 N draws behind the scalar of 1. Together its values on H
// are N times its scalars at 0, N and 2 N.
func blind(n int, draws []fr.El) []fr.El {
	first := draws[n-1].Add(draws[2*n-1]).Neg()
	return poly.Of(slices.Concat([]fr.El{first}, draws)...)
}

// quotient is u(a, Y): its scalars are a's powers, the highest first.
func quotient(n int, a fr.El) []fr.El {
	powers := make([]fr.El, n)
	power := fr.Of(1)
	for i := range slices.Backward(powers) {
		powers[i] = power
		power = power.Mul(a)
	}
	return powers
}

// lower is a polynomial less its scalar of 1, over Y.
func lower(p []fr.El) []fr.El { return poly.Of(p[min(1, len(p)):]...) }

// fractions is the polynomial that is worth, on K, each one over the one under it,
// together. Of an Index made by hand one under it may be 0 there, though a and b are not
// of H: then they are draws that may not be.
func fractions(k *domain.Domain, upper, under [3][]fr.El) ([]fr.El, api.Errno) {
	sums := make([]fr.El, k.Size())
	for i := range upper {
		per, e := fr.Invert(k.Values(under[i]))
		if e != api.OK {
			return nil, api.ErrDraw
		}
		for j, x := range k.Values(upper[i]) {
			sums[j] = sums[j].Add(x.Mul(per[j]))
		}
	}
	return k.Poly(sums)
}
