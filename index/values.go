package index

import (
	"iter"
	"slices"

	"marlinspike/api"
	"marlinspike/domain"
	"marlinspike/fr"
)

// domains are H and K.
func domains(n, m int) (h, k *domain.Domain, e api.Errno) {
	if h, e = domain.New(n); e != api.OK {
		return nil, nil, e
	}
	if k, e = domain.New(m); e != api.OK {
		return nil, nil, e
	}
	return h, k, api.OK
}

// elements are a domain's, in order: what Z is worth there.
func elements(d *domain.Domain) []fr.El { return d.Values([]fr.El{{}, fr.Of(1)}) }

// fits tells whether a matrix has at most m entries, all of them scalars in bounds.
func fits(entries []api.Entry, n, m int) bool {
	wrong := func(x api.Entry) bool {
		_, e := fr.From(x.Val)
		return e != api.OK || max(x.Row, x.Col) >= uint32(n)
	}
	return len(entries) <= m && !slices.ContainsFunc(entries, wrong)
}

// worths are what row, col and val are worth for the entries, in order, of the elements
// of H. Of an element col to the N is 1, so that u(col, col) is N / col.
func worths(entries []api.Entry, at []fr.El) iter.Seq2[int, [3]fr.El] {
	part, _ := fr.Of(int64(len(at))).Inv()
	return func(yield func(k int, worth [3]fr.El) bool) {
		for k, x := range entries {
			val, _ := fr.From(x.Val)
			row, col := at[x.Row], at[x.Col]
			if !yield(k, [3]fr.El{row, col, val.Mul(col).Mul(part)}) {
				return
			}
		}
	}
}

// lay are the values of row, col and val at all of K's elements, as they are behind the
// last entry, but where there is one.
func lay(m int, all iter.Seq2[int, [3]fr.El]) (values [3][]fr.El) {
	for i, behind := range [3]fr.El{fr.Of(1), fr.Of(1), {}} {
		values[i] = slices.Repeat([]fr.El{behind}, m)
	}
	for k, worth := range all {
		for i, x := range worth {
			values[i][k] = x
		}
	}
	return values
}
