package poly

import (
	"slices"

	"marlinspike/fr"
)

// cut is a list up to its last scalar that is not 0.
func cut(p []fr.El) []fr.El {
	for i, x := range slices.Backward(p) {
		if !x.IsZero() {
			return p[:i+1]
		}
	}
	return nil
}

// wide is a list in new memory, with zeros behind it if it has less than n.
func wide(p []fr.El, n int) []fr.El {
	l := make([]fr.El, max(len(p), n))
	copy(l, p)
	return l
}

// both is the polynomial of sums, or of differences, as op says.
func both(p, q []fr.El, op func(x, y fr.El) fr.El) []fr.El {
	l := wide(p, len(q))
	put(l, q, op)
	return cut(l)
}

// put lays each of p's scalars on that of l at its place: their sum, or their
// difference, as op says. Of 0, of which there are many in powers of Z, neither
// changes anything.
func put(l, p []fr.El, op func(x, y fr.El) fr.El) {
	for i, y := range p {
		if !y.IsZero() {
			l[i] = op(l[i], y)
		}
	}
}

// putTimes is put of s times p.
func putTimes(l, p []fr.El, s fr.El, op func(x, y fr.El) fr.El) {
	if s.IsZero() {
		return
	}
	put(l, p, func(x, y fr.El) fr.El { return op(x, y.Mul(s)) })
}
