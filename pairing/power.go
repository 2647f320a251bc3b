package pairing

import (
	"iter"

	"marlinspike/fq12"
	"marlinspike/group"
	"marlinspike/nat"
)

// product is that of words, as a number. There are never so many of them that
// it could be too long.
func product(words ...uint64) []uint64 {
	number := nat.Of(1)
	for _, w := range words {
		number, _ = nat.Mul(number, nat.Of(w))
	}
	return number
}

// power is f's by a polynomial's worth at q, whose coefficients are told the
// highest first. Step by step what there is goes to the power by q.
func power(f fq12.El, coefficients ...[]uint64) fq12.El {
	sum := fq12.Of(1)
	for _, n := range coefficients {
		sum = sum.Frob().Mul(f.Pow(n))
	}
	return sum
}

// pairs are the points at the same places of two lists of one length.
func pairs(ps []group.G1, qs []group.G2) iter.Seq2[group.G1, group.G2] {
	return func(yield func(group.G1, group.G2) bool) {
		for i, p := range ps {
			if !yield(p, qs[i]) {
				return
			}
		}
	}
}
