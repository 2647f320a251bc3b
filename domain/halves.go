package domain

import (
	"iter"

	"marlinspike/fr"
)

// by is a number by n, also one below 0, as n is a power of 2.
func (d *Domain) by(i int) int { return i & (d.n - 1) }

// elements are all, in order.
func (d *Domain) elements() iter.Seq2[int, fr.El] {
	return func(yield func(int, fr.El) bool) {
		x := fr.Of(1)
		for i := range d.n {
			if !yield(i, x) {
				return
			}
			x = x.Mul(d.root)
		}
	}
}

// worth are what a polynomial of n scalars is worth at the elements, in order. Its
// scalars at even places and those at odd ones are polynomials of Z^2: both are
// worth the same at an element and at its negative, which is n / 2 places on.
func (d *Domain) worth(p []fr.El) []fr.El {
	powers := make([]fr.El, d.n)
	for i, x := range d.elements() {
		powers[i] = x
	}
	var halve func(values []fr.El, from, step int)
	halve = func(values []fr.El, from, step int) { // of the scalars from there on, each step-th
		if step == d.n {
			values[0] = p[from]
			return
		}
		even, odd := values[:len(values)/2], values[len(values)/2:]
		halve(even, from, 2*step)
		halve(odd, from+step, 2*step)
		for i, x := range odd {
			x = x.Mul(powers[i*step])
			even[i], odd[i] = even[i].Add(x), even[i].Sub(x)
		}
	}
	values := make([]fr.El, d.n)
	halve(values, 0, 1)
	return values
}
