package r1cs_test

import (
	"fmt"
	"math"
	"math/big"
	"slices"
	"testing"

	"marlinspike/api"
	"marlinspike/fr"
)

// P22.1: Apply.

func TestSumsByHand(t *testing.T) {
	m := entries([3]int64{0, 0, 5}, [3]int64{0, 2, 1}, [3]int64{2, 1, 10}, [3]int64{2, 2, -1}, [3]int64{2, 3, 7})
	z := wholes(1, 2, 3, 100)
	wantSums(t, "in order", m, 3, z, wholes(8, 0, 717))
	slices.Reverse(m)
	wantSums(t, "turned", m, 3, z, wholes(8, 0, 717))
	wantSums(t, "twice", slices.Concat(m, m), 3, z, wholes(16, 0, 1434))
	wantSums(t, "of more rows", m, 6, z, wholes(8, 0, 717, 0, 0, 0))
	wantSums(t, "of more columns", m, 3, wholes(1, 2, 3, 100, 1000), wholes(8, 0, 717))
	wantSums(t, "of others", m, 3, wholes(0, -1, 0, 0), wholes(0, 0, -10))
	wantSums(t, "of one and its negative", entries([3]int64{1, 0, 5}, [3]int64{1, 0, -5}), 2, wholes(9), wholes(0, 0))
	wantSums(t, "of two that are r together", []api.Entry{at(0, 0, minus(1)), at(0, 1, whole(1))}, 1, wholes(1, 1), wholes(0))
	wantSums(t, "of -1 and -1", []api.Entry{at(0, 0, minus(1))}, 1, wholes(-1), wholes(1))
	wantSums(t, "of 0", entries([3]int64{0, 0, 0}, [3]int64{1, 0, 4}, [3]int64{1, 1, 0}), 2, wholes(6, 7), wholes(0, 24))
}

// loose are so many entries, in no order, some of them at one place, and some of 0, in
// the first rows and columns.
func (s *numbers) loose(rows, cols, count int) (m []api.Entry) {
	for i := range count {
		switch {
		case i > 0 && s.below(4) == 0:
			x := m[s.below(i)]
			m = append(m, at(int(x.Row), int(x.Col), s.big()))
		case s.below(9) == 0:
			m = append(m, at(s.below(rows), s.below(cols), whole(0)))
		default:
			m = append(m, at(s.below(rows), s.below(cols), s.big()))
		}
	}
	return m
}

func TestApply(t *testing.T) {
	s := numbers{state: 10}
	for i := range 400 {
		rows, cols := 1+s.below(9), 1+s.below(9)
		m := s.loose(rows, cols, s.below(40))
		z := s.assignment(cols + s.below(3))
		z[0] = s.big() // it need not be 1
		if i%5 == 0 {
			z = slices.Repeat(wholes(0), len(z))
		}
		for _, more := range []int{0, 1, 7} {
			wantSums(t, fmt.Sprintf("%d: %v of %v, %d more rows", i, m, z, more), m, rows+more, z, sums(m, rows+more, z))
		}
	}
}

// Matrices of circuits, in order and in any other.
func TestApplyOfCircuits(t *testing.T) {
	s := numbers{state: 11}
	for _, x := range append(sketches(), greatSketches()[:3]...) {
		c, z := s.drawn(x), s.assignment(x.cols)
		for i, m := range matrices(&c) {
			what := fmt.Sprintf("%v, the matrix %d", x, i)
			wanted := sums(*m, x.rows, z)
			wantSums(t, what, *m, x.rows, z, wanted)
			turned := slices.Clone(*m)
			for j := range turned {
				k := s.below(j + 1)
				turned[j], turned[k] = turned[k], turned[j]
			}
			wantSums(t, what+", in any order", turned, x.rows, z, wanted)
		}
	}
}

// Each row and each column counts by itself.
func TestEachPlace(t *testing.T) {
	z := wholes(3, 5, 7, 11)
	for row := range 5 {
		for col := range 4 {
			wanted := wholes(0, 0, 0, 0, 0)
			wanted[row] = times(whole(13), z[col])
			wantSums(t, fmt.Sprintf("at %d, %d", row, col), []api.Entry{at(row, col, whole(13))}, 5, z, wanted)
		}
	}
}

// badRows are those that no matrix has.
func badRows() []int {
	return []int{-1, -2, math.MinInt, math.MinInt + 1, math.MinInt32, math.MinInt32 - 1, -api.MaxDomain, api.MaxDomain + 1, api.MaxDomain + 2, 2 * api.MaxDomain, 1 << 31, 1<<32 + 1, math.MaxInt - 1, math.MaxInt}
}

// Refused whatever the entries are.
func TestBadRows(t *testing.T) {
	z := els(wholes(1, 2))
	for _, rows := range badRows() {
		for i, m := range [][]api.Entry{nil, {}, entries([3]int64{0, 0, 1}), {{Row: math.MaxUint32}}, {{Val: bytesOf(r)}}, {{Col: 2}}} {
			refuseApply(t, fmt.Sprintf("%d rows, %d", rows, i), m, rows, z, api.ErrArg)
			refuseApply(t, fmt.Sprintf("%d rows, %d, of nothing", rows, i), m, rows, nil, api.ErrArg)
		}
	}
}

// Of rows without any entry each sum is 0, and of no rows there is none.
func TestRowsWithoutEntries(t *testing.T) {
	for _, rows := range []int{0, 1, 2, api.MaxRows, api.MaxRows + 1, api.MaxDomain - 1, api.MaxDomain} {
		for _, m := range [][]api.Entry{nil, {}} {
			for _, z := range [][]*big.Int{nil, {}, wholes(1), wholes(0, 5, 6)} {
				wantSums(t, fmt.Sprint("of ", rows), m, rows, z, slices.Repeat(wholes(0), rows))
			}
		}
	}
	refuseApply(t, "an entry of no rows", entries([3]int64{0, 0, 1}), 0, els(wholes(1)), api.ErrIndex)
	refuseApply(t, "r, of no rows", []api.Entry{{Val: bytesOf(r)}}, 0, els(wholes(1)), api.ErrIndex)
}

// Of the most rows the first and the last one, and beyond; of more entries, and more
// scalars, than a circuit has.
func TestMostRows(t *testing.T) {
	const most = api.MaxDomain
	wanted := slices.Repeat(wholes(0), most)
	wanted[0], wanted[most-1] = whole(10), whole(21)
	wantSums(t, "the last row", entries([3]int64{most - 1, 1, 7}, [3]int64{0, 0, 5}), most, wholes(2, 3), wanted)
	refuseApply(t, "beyond it", entries([3]int64{most - 1, 1, 7}, [3]int64{most, 0, 5}), most, els(wholes(2, 3)), api.ErrIndex)
	for _, count := range []int{api.MaxEntry, api.MaxEntry + 1, 3 * api.MaxEntry, 1<<16 + 1} {
		many := slices.Repeat(entries([3]int64{1, 1, 3}), count)
		wantSums(t, fmt.Sprint(count, " at one place"), many, 2, wholes(1, 2), wholes(0, int64(6*count)))
		many[count-1].Val = bytesOf(r)
		refuseApply(t, fmt.Sprint("r behind all but it of ", count), many, 2, els(wholes(1, 2)), api.ErrField)
		many[count-1].Col = 2
		refuseApply(t, fmt.Sprint("a column behind all but it of ", count), many, 2, els(wholes(1, 2)), api.ErrIndex)
	}
	z := slices.Repeat(wholes(1), 1<<17)
	z[1<<17-1] = whole(4)
	wantSums(t, "a far column", entries([3]int64{0, 1<<17 - 1, 3}, [3]int64{0, 1 << 16, 2}), 1, z, wholes(14))
	refuseApply(t, "a farther one", entries([3]int64{0, 1<<17 - 1, 3}, [3]int64{0, 1 << 17, 2}), 1, els(z), api.ErrIndex)
}

// An entry at the last row and column, and beyond either.
func TestApplyBounds(t *testing.T) {
	s := numbers{state: 12}
	for rows := range 4 {
		for cols := range 4 {
			z := s.assignment(cols)
			for _, row := range []uint32{0, uint32(rows) - 1, uint32(rows), uint32(rows) + 1, 1<<16 + uint32(rows) - 1, 1 << 31, math.MaxUint32} {
				for _, col := range []uint32{0, uint32(cols) - 1, uint32(cols), uint32(cols) + 1, 1<<16 + uint32(cols) - 1, 1 << 31, math.MaxUint32} {
					m := []api.Entry{{Row: row, Col: col, Val: bytesOf(whole(5))}}
					what := fmt.Sprintf("%d, %d of %d, %d", row, col, rows, cols)
					if int64(row) < int64(rows) && int64(col) < int64(cols) {
						wantSums(t, what, m, rows, z, sums(m, rows, z))
						continue
					}
					refuseApply(t, what, m, rows, els(z), api.ErrIndex)
					if rows > 0 && cols > 0 {
						refuseApply(t, what+", behind one that is not", append(entries([3]int64{0, 0, 1}), m...), rows, els(z), api.ErrIndex)
					}
				}
			}
		}
	}
	for _, z := range [][]fr.El{nil, {}} {
		refuseApply(t, "of no scalars", entries([3]int64{0, 0, 1}), 1, z, api.ErrIndex)
	}
}

func TestApplyValues(t *testing.T) {
	for _, x := range values() {
		for at := range 4 {
			m := entries([3]int64{1, 1, 1}, [3]int64{0, 2, 3}, [3]int64{1, 1, -1}, [3]int64{2, 0, 9})
			m[at].Val = x.val
			what := fmt.Sprintf("%x at %d", x.val, at)
			if x.wanted == api.ErrField {
				refuseApply(t, what, m, 3, els(wholes(5, 6, 7)), api.ErrField)
				continue
			}
			z := wholes(5, -6, 7)
			wantSums(t, what, m, 3, z, sums(m, 3, z)) // 0 is no fault
		}
	}
}

// Of two flaws the first entry's, and of one entry's ErrIndex ahead of ErrField.
func TestApplyFlaws(t *testing.T) {
	whole := entries([3]int64{2, 1, 4}, [3]int64{0, 0, 1}, [3]int64{2, 1, 4}, [3]int64{1, 2, 0}, [3]int64{0, 0, 7})
	z := els(wholes(1, 2, 3))
	l := []flaw{
		{"a row", api.ErrIndex, func(m []api.Entry, at int) { m[at].Row = 3 }},
		{"a column", api.ErrIndex, func(m []api.Entry, at int) { m[at].Col = 3 }},
		{"r", api.ErrField, func(m []api.Entry, at int) { m[at].Val = bytesOf(r) }},
		{"r and a column", api.ErrIndex, func(m []api.Entry, at int) { m[at].Val, m[at].Col = bytesOf(r), math.MaxUint32 }},
		{"r and a row", api.ErrIndex, func(m []api.Entry, at int) { m[at].Val, m[at].Row = bytesOf(r), math.MaxUint32 }},
	}
	for i := range whole {
		for j := i; j < len(whole); j++ {
			for _, first := range l {
				for _, second := range l {
					m := slices.Clone(whole)
					first.spoil(m, i)
					if j > i {
						second.spoil(m, j)
					}
					refuseApply(t, fmt.Sprintf("%s at %d, %s at %d", first.name, i, second.name, j), m, 3, z, first.wanted)
				}
			}
		}
	}
}
