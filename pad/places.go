package pad

import (
	"cmp"
	"iter"
	"slices"

	"marlinspike/api"
)

// power is the least power of 2 that is below none of some numbers.
func power(least ...int) int {
	p := 1
	for p < slices.Max(least) {
		p *= 2
	}
	return p
}

// places are where variables lie, in order: so many inputs at the multiples of a step,
// and behind them whatever else there is at the others, below n.
func places(n, step, inputs int) iter.Seq[int] {
	return func(yield func(place int) bool) {
		for j := range inputs {
			if !yield(j * step) {
				return
			}
		}
		for place := range n {
			if place%step != 0 && !yield(place) {
				return
			}
		}
	}
}

// lay are the first places, so many as there are columns.
func lay(cols int, all iter.Seq[int]) []int {
	laid := make([]int, 0, cols)
	for place := range all {
		if len(laid) == cols {
			break
		}
		laid = append(laid, place)
	}
	return laid
}

// padded are a matrix's entries by places, which may stand in another order than the
// columns that they are those of.
func padded(m []api.Entry, at []int) []api.Entry {
	laid := make([]api.Entry, len(m))
	copy(laid, m)
	slices.SortFunc(laid, func(a, b api.Entry) int {
		return cmp.Or(cmp.Compare(a.Row, b.Row), cmp.Compare(at[a.Col], at[b.Col]))
	})
	for i := range laid {
		laid[i].Col = uint32(at[laid[i].Col])
	}
	return laid
}

// within tells whether there may be so many places, and all variables' are of them:
// who calls may have made the Shape by hand.
func (s Shape) within() bool {
	outside := func(place int) bool { return place < 0 || place >= s.N }
	return s.N >= 0 && s.N <= api.MaxDomain && !slices.ContainsFunc(s.Places, outside)
}
