package srs

import (
	"iter"

	"marlinspike/api"
	"marlinspike/fr"
	"marlinspike/group"
)

// powers are so many of a scalar's powers, from that by 0 on.
func powers(t fr.El, count int) iter.Seq[fr.El] {
	return func(yield func(fr.El) bool) {
		power := fr.Of(1)
		for range count {
			if !yield(power) {
				return
			}
			power = power.Mul(t)
		}
	}
}

// neighbours are each point of lists and the one behind it, list by list.
func neighbours(lists ...[]group.G1) iter.Seq2[group.G1, group.G1] {
	return func(yield func(p, next group.G1) bool) {
		for _, l := range lists {
			for i := range len(l) - 1 {
				if !yield(l[i], l[i+1]) {
					return
				}
			}
		}
	}
}

// multiples tells a point's multiples. As a setup takes many of the same point, all
// that each half of a scalar's bytes can add is laid out ahead of them, so that a
// multiple takes one sum for each half.
func multiples(p group.G1) func(k fr.El) group.G1 {
	c := group.Curve1()
	var table [2 * len(api.Scalar{})][16]group.G1
	for place := len(table) - 1; place >= 0; place-- {
		row := &table[place]
		for d := 1; d < len(row); d++ {
			row[d] = c.Add(row[d-1], p)
		}
		p = c.Add(row[len(row)-1], p) // 16 times what it was
	}
	return func(k fr.El) (sum group.G1) {
		for place, b := range k.Scalar() {
			sum = c.Add(sum, table[2*place][b>>4])
			sum = c.Add(sum, table[2*place+1][b&15])
		}
		return sum
	}
}
