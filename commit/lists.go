package commit

import (
	"slices"

	"marlinspike/api"
	"marlinspike/fr"
	"marlinspike/srs"
)

// wrong is what a setup is refused by, whatever is asked of it.
func wrong(s *srs.SRS) api.Errno {
	switch {
	case s == nil:
		return api.ErrNil
	case len(s.Powers) != len(s.Blinds) || len(s.Powers) == 0:
		return api.ErrArg
	}
	return api.OK
}

// cut is a list up to its last scalar that is not 0: the highest one of the polynomial.
func cut(p []fr.El) []fr.El {
	for i, x := range slices.Backward(p) {
		if !x.IsZero() {
			return p[:i+1]
		}
	}
	return nil
}

// powers tells a scalar's powers, from that by 0 on, at each call the next one. They are
// scalars: a point that is not of its group would be another one, x times over and over.
func powers(x fr.El) func() fr.El {
	next := fr.Of(1)
	return func() fr.El {
		power := next
		next = next.Mul(x)
		return power
	}
}

// fold is the multiples of things together. Each one's multiple is asked for once, in
// order, so that it may be by another number than the last; the zero one adds nothing.
func fold[T any](l []T, sum func(a, b T) T, times func(a T) T) T {
	var all T
	for _, a := range l {
		all = sum(all, times(a))
	}
	return all
}
