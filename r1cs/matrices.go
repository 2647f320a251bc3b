package r1cs

import (
	"iter"
	"slices"

	"marlinspike/api"
	"marlinspike/fr"
)

// matrices are a circuit's.
func matrices(c api.Circuit) [][]api.Entry { return [][]api.Entry{c.A, c.B, c.C} }

// wrong is what a circuit of so many entries is refused by, whatever they are.
func wrong(c api.Circuit, counts ...int) api.Errno {
	switch {
	case !may(c.Rows, api.MaxRows) || !may(c.Cols, api.MaxRows) || !may(c.Inputs, c.Cols):
		return api.ErrArg
	case slices.Max(counts) > api.MaxEntry:
		return api.ErrLong
	}
	return api.OK
}

// may tells whether there may be so many, where there may be so many at most.
func may(n, most uint32) bool { return n >= 1 && n <= most }

// wrongIn is what a matrix is refused by.
func wrongIn(m []api.Entry, rows, cols int) api.Errno {
	ahead := term{row: -1}
	for t, e := range terms(m, rows, cols) {
		switch {
		case !t.behind(ahead):
			return api.ErrIndex
		case e != api.OK:
			return e
		case t.val.IsZero():
			return api.ErrZero
		}
		ahead = t
	}
	return api.OK
}

// term is what an entry says.
type term struct {
	row, col int
	val      fr.El
}

// behind tells whether it stands behind another one: by rows, and then columns.
func (t term) behind(o term) bool { return t.row > o.row || t.row == o.row && t.col > o.col }

// terms are what a matrix's entries say, each with what it is refused by, wherever the
// others stand.
func terms(m []api.Entry, rows, cols int) iter.Seq2[term, api.Errno] {
	return func(yield func(t term, e api.Errno) bool) {
		for _, entry := range m {
			val, e := fr.From(entry.Val)
			if int64(entry.Row) >= int64(rows) || int64(entry.Col) >= int64(cols) {
				e = api.ErrIndex
			}
			if !yield(term{int(entry.Row), int(entry.Col), val}, e) {
				return
			}
		}
	}
}

// sums are the rows' sums of a matrix none of whose entries is refused.
func sums(m []api.Entry, rows int, z []fr.El) []fr.El {
	all := make([]fr.El, rows)
	for t := range terms(m, rows, len(z)) {
		all[t.row] = all[t.row].Add(t.val.Mul(z[t.col]))
	}
	return all
}
