package index

import (
	"iter"

	"marlinspike/domain"
	"marlinspike/fr"
)

// terms are, of each matrix and at each of K's elements, col and its weight, e val
// u(a, row), but where that is 0 by e or val, as it is behind the last entry.
func (x Index) terms(h, k *domain.Domain, e [3]fr.El, a fr.El) iter.Seq2[fr.El, fr.El] {
	return func(yield func(col, weight fr.El) bool) {
		for i, times := range e {
			row, col, val := k.Values(x.Row[i]), k.Values(x.Col[i]), k.Values(x.Val[i])
			for j := range val {
				part := times.Mul(val[j])
				if !part.IsZero() && !yield(col[j], part.Mul(h.U(a, row[j]))) {
					return
				}
			}
		}
	}
}

// powerSums are, for each power from 0 to N - 1, the sum of the weights times their
// cols to it. Weights that stand at their cols' places in H are a polynomial, which is
// worth that at H's elements. Who calls may have made the Index by hand: what lies
// elsewhere than on H is added power by power, which takes longer.
func powerSums(h *domain.Domain, terms iter.Seq2[fr.El, fr.El]) []fr.El {
	cols := elements(h)
	weights := make([]fr.El, len(cols))
	places := map[fr.El]int{}
	for i, col := range cols {
		places[col] = i
	}
	for col, weight := range terms {
		i, known := places[col]
		if !known {
			i = len(cols)
			places[col], cols, weights = i, append(cols, col), append(weights, fr.El{})
		}
		weights[i] = weights[i].Add(weight)
	}
	sums := h.Values(weights[:h.Size()])
	for i := h.Size(); i < len(cols); i++ {
		addPowers(sums, cols[i], weights[i])
	}
	return sums
}

// addPowers adds a weight times each power of col to the sum of that power.
func addPowers(sums []fr.El, col, weight fr.El) {
	for j := range sums {
		sums[j] = sums[j].Add(weight)
		weight = weight.Mul(col)
	}
}
