package decide

import (
	"iter"

	"marlinspike/api"
	"marlinspike/domain"
	"marlinspike/fr"
)

// domains are H, X's and K, if X's has room for so many inputs.
func (z Sizes) domains(inputs int) (all [3]*domain.Domain, e api.Errno) {
	for i, size := range [3]int{z.N, z.X, z.M} {
		if all[i], e = domain.New(size); e != api.OK {
			return [3]*domain.Domain{}, e
		}
	}
	if inputs > z.X {
		return [3]*domain.Domain{}, api.ErrArg
	}
	return all, api.OK
}

// worth is what the inputs' polynomial is worth. Behind the inputs all is 0, so that no
// other Lagrange polynomial plays a part.
func worth(x *domain.Domain, in []fr.El, b fr.El) (sum fr.El) {
	for i, input := range in {
		sum = together(sum, input.Mul(x.Lagrange(i, b)))
	}
	return sum
}

// together is the sum of a side's parts.
func together(parts ...fr.El) (sum fr.El) {
	for _, x := range parts {
		sum = sum.Add(x)
	}
	return sum
}

// matrices are each one's denominator, and its e times its Val.
func (v Values) matrices(a fr.El, e [3]fr.El, b fr.El) iter.Seq2[fr.El, fr.El] {
	denominator := func(i int) fr.El { return a.Sub(v.Row[i]).Mul(b.Sub(v.Col[i])) }
	return func(yield func(under, upper fr.El) bool) {
		for i, val := range v.Val {
			if !yield(denominator(i), e[i].Mul(val)) {
				return
			}
		}
	}
}

// cross is what stands beside each denominator times all the others, together, and the
// product of all denominators. It takes no inverse, as some of them may be 0.
func cross(fractions iter.Seq2[fr.El, fr.El]) (sum, all fr.El) {
	all = fr.Of(1)
	for under, upper := range fractions {
		sum = together(sum.Mul(under), upper.Mul(all))
		all = all.Mul(under)
	}
	return sum, all
}
