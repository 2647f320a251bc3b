package pad_test

import (
	"fmt"
	"math"
	"math/big"
	"slices"
	"testing"

	"marlinspike/api"
	"marlinspike/fr"
	"marlinspike/pad"
)

// P23.2

// list are so many numbers, the first of which may be any; some are 0.
func (s *numbers) list(count int) []*big.Int { return s.assignment(count + 1)[1:] }

func TestSpread(t *testing.T) {
	s := numbers{state: 10}
	for _, x := range append(sketches(), greatSketches()...) {
		c := s.drawn(x)
		wanted := shapeOf(c)
		for i := range 3 {
			z := s.assignment(x.cols)
			if i > 0 { // what is laid need not be 1 first
				z = s.list(x.cols)
			}
			wantSpread(t, fmt.Sprint(x, i), padOf(t, c), z, spreadOf(wanted, z))
		}
	}
}

// Assignments that are laid by hand.
func TestSpreadByHand(t *testing.T) {
	for _, x := range []struct {
		rows, cols, inputs uint32
		z, laid            []int64
	}{
		{1, 1, 1, []int64{1}, []int64{1, 0}},
		{1, 1, 1, []int64{0}, []int64{0, 0}},
		{3, 1, 1, []int64{-7}, []int64{-7, 0, 0, 0}},
		{1, 2, 1, []int64{1, 2}, []int64{1, 2}},
		{1, 2, 2, []int64{1, 2}, []int64{1, 0, 2, 0}},
		{5, 2, 2, []int64{1, 2}, []int64{1, 0, 0, 0, 2, 0, 0, 0}},
		{1, 3, 1, []int64{1, 2, 3}, []int64{1, 2, 3, 0}},
		{1, 3, 2, []int64{1, 2, 3}, []int64{1, 3, 2, 0}},
		{1, 3, 2, []int64{5, 2, 3}, []int64{5, 3, 2, 0}},
		{1, 3, 2, []int64{0, 0, 3}, []int64{0, 3, 0, 0}},
		{1, 3, 3, []int64{1, 2, 3}, []int64{1, 0, 2, 0, 3, 0, 0, 0}},
		{1, 4, 2, []int64{1, 2, 3, 4}, []int64{1, 3, 2, 4}},
		{1, 5, 2, []int64{1, 2, 3, 4, 5}, []int64{1, 3, 4, 5, 2, 0, 0, 0}},
		{1, 7, 3, []int64{1, 2, 3, 4, 5, 6, 7}, []int64{1, 4, 2, 5, 3, 6, 0, 7}},
		{1, 8, 4, []int64{1, 2, 3, 4, 5, 6, 7, 8}, []int64{1, 5, 2, 6, 3, 7, 4, 8}},
		{1, 6, 5, []int64{1, 2, 3, 4, 5, 6}, []int64{1, 6, 2, 0, 3, 0, 4, 0, 5, 0, 0, 0, 0, 0, 0, 0}},
	} {
		s := padOf(t, api.Circuit{Rows: x.rows, Cols: x.cols, Inputs: x.inputs})
		wantSpread(t, fmt.Sprint(x), s, wholes(x.z...), wholes(x.laid...))
	}
}

// As many scalars as there are places, and not one less or more.
func TestSpreadOfOtherLengths(t *testing.T) {
	s := numbers{state: 11}
	for _, x := range append(sketches(), greatSketches()...) {
		shape := padOf(t, s.drawn(x))
		for _, count := range []int{0, 1, x.cols - 1, x.cols, x.cols + 1, x.inputs, x.rows, 2 * x.cols, shape.N, shape.X, shape.M, 1 << 16} {
			z := slices.Repeat(els(wholes(1)), count)
			if count != x.cols {
				refuseSpread(t, fmt.Sprintf("%v, %d scalars", x, count), shape, z)
				continue
			}
			if l := spread(t, shape, z); len(l) != shape.N || l[0] != fr.Of(1) {
				t.Errorf("%v: %v", x, backs(l))
			}
		}
		refuseSpread(t, fmt.Sprint(x), shape, nil)
	}
}

// Over padded assignments, and over any other lists.
func TestApply(t *testing.T) {
	s := numbers{state: 12}
	for _, x := range append(sketches(), greatSketches()...) {
		c := s.drawn(x)
		shape, wanted := padOf(t, c), shapeOf(c)
		for i, z := range [][]*big.Int{spreadOf(wanted, s.assignment(x.cols)), s.list(wanted.N), s.list(wanted.N), slices.Repeat(wholes(0), wanted.N)} {
			for k := range 3 {
				wantSums(t, fmt.Sprint(x, i, k), shape, k, z, sums(wanted.Rows[k], wanted.N, z))
			}
		}
	}
}

// Sums that are told by hand.
func TestApplyByHand(t *testing.T) {
	s := padOf(t, cube())
	for k, wanted := range [][]int64{
		{3, 5, 3 + 7, 0, 0, 0, 0, 0},
		{3, 3, 2, 0, 0, 0, 0, 0},
		{5, 7, 11 - 10, 0, 0, 0, 0, 0},
	} {
		wantSums(t, fmt.Sprint("x x x + x + 5 = y, ", k), s, k, wholes(2, 3, 5, 7, 11, 13, 17, 19), wholes(wanted...))
	}
	s = padOf(t, knotted())
	for k, wanted := range [][]int64{
		{1 + 4*10 + 2*100 + 5*1000 + 3*10000 + 6*100000 + 7*10000000, 8*100 + 9*10000000, 0, 0, 0, 0, 0, 0},
		{0, 1 + 3*10 + 2*10000, 0, 0, 0, 0, 0, 0},
		{0, 0, 0, 0, 0, 0, 0, 0},
	} {
		wantSums(t, fmt.Sprint("in another order, ", k), s, k, wholes(1, 10, 100, 1000, 10000, 100000, 1000000, 10000000), wholes(wanted...))
	}
	wantSums(t, "beyond r", padOf(t, square()), 0, []*big.Int{whole(1), minus(1), whole(0), whole(0)}, []*big.Int{minus(1), whole(0), whole(0), whole(0)})
}

// Of no other number is there a matrix.
func TestApplyOfOtherMatrices(t *testing.T) {
	s := numbers{state: 13}
	for _, x := range sketches() {
		shape := padOf(t, s.drawn(x))
		for _, k := range []int{-1, -2, -3, 3, 4, 5, 6, 1 << 8, 1 << 16, 1 << 32, 1<<32 + 1, -1 << 32, 1 << 62, math.MinInt32, math.MaxInt32, math.MinInt, math.MinInt + 1, math.MaxInt - 1, math.MaxInt} {
			for _, count := range []int{shape.N, 0, x.cols, shape.N + 1} {
				refuseApply(t, fmt.Sprintf("%v, the matrix %d", x, k), shape, k, make([]fr.El, count), api.ErrArg)
			}
		}
	}
}

// N scalars, and not one less or more.
func TestApplyOfOtherLengths(t *testing.T) {
	s := numbers{state: 14}
	for _, x := range append(sketches(), greatSketches()...) {
		shape := padOf(t, s.drawn(x))
		for _, count := range []int{0, 1, x.cols, x.rows, shape.N - 1, shape.N + 1, shape.N / 2, 2 * shape.N, shape.X, shape.M, 1 << 16} {
			for k := range 3 {
				if count != shape.N {
					refuseApply(t, fmt.Sprintf("%v, %d scalars", x, count), shape, k, make([]fr.El, count), api.ErrArg)
				}
			}
		}
		for k := range 3 {
			refuseApply(t, fmt.Sprint(x), shape, k, nil, api.ErrArg)
			if l := applied(t, shape, k, make([]fr.El, shape.N)); len(l) != shape.N {
				t.Errorf("%v: %d sums", x, len(l))
			}
		}
	}
}

// A Shape of nothing has no places, and no rows.
func TestZeroShape(t *testing.T) {
	var s pad.Shape
	for _, none := range [][]fr.El{nil, {}} {
		if l, e := s.Spread(none); e != api.OK || len(l) != 0 {
			t.Errorf("Spread: %v, %v", backs(l), e)
		}
		for k := -1; k < 4; k++ {
			wanted := api.ErrArg
			if k >= 0 && k < 3 {
				wanted = api.OK
			}
			refuseApply(t, fmt.Sprint("Apply, ", k), s, k, none, wanted)
		}
	}
	for count := range 5 {
		z := make([]fr.El, count+1)
		refuseSpread(t, fmt.Sprint(count+1), s, z)
		refuseApply(t, fmt.Sprint(count+1), s, 0, z, api.ErrArg)
	}
}

// Shapes that no circuit has are taken as they are: what counts is N, the places, and
// the entries, in any order, several at one place, and of 0 too.
func TestShapesByHand(t *testing.T) {
	s := pad.Shape{
		N: 3, X: -5, M: math.MaxInt, Inputs: 77, Places: []int{2, 0},
		Rows: [3][]api.Entry{
			entries([3]int64{2, 1, 5}, [3]int64{0, 2, 7}, [3]int64{2, 1, 6}, [3]int64{0, 0, 0}),
			entries([3]int64{0, 0, 1}),
			nil,
		},
	}
	wantSpread(t, "three", s, wholes(8, 9), wholes(9, 0, 8))
	refuseSpread(t, "three", s, els(wholes(8, 9, 10)))
	wantSums(t, "three", s, 0, wholes(1, 10, 100), wholes(700, 0, 110))
	wantSums(t, "three", s, 1, wholes(5, 10, 100), wholes(5, 0, 0))
	wantSums(t, "three", s, 2, wholes(5, 10, 100), wholes(0, 0, 0))
	refuseApply(t, "three", s, 1, els(wholes(5, 10)), api.ErrArg)
	wantSpread(t, "without places", pad.Shape{N: 4}, nil, wholes(0, 0, 0, 0))
	wantSpread(t, "the most", pad.Shape{N: api.MaxDomain, Places: []int{api.MaxDomain - 1}}, wholes(6), append(slices.Repeat(wholes(0), api.MaxDomain-1), whole(6)))
	most := slices.Repeat(wholes(3), api.MaxDomain)
	wantSums(t, "the most", pad.Shape{N: api.MaxDomain, Rows: [3][]api.Entry{1: entries([3]int64{1, api.MaxDomain - 1, 2})}}, 1, most, append(wholes(0, 6), slices.Repeat(wholes(0), api.MaxDomain-2)...))
}

// Shapes that are none: places that there are not, entries out of bounds, sizes that are
// below 0 or beyond any domain's.
func TestShapesThatAreNone(t *testing.T) {
	for _, place := range []int{-1, -4, 4, 5, 1 << 16, 1 << 32, math.MinInt, math.MaxInt} {
		s := pad.Shape{N: 4, X: 2, M: 2, Inputs: 2, Places: []int{0, 2, place}}
		refuseSpread(t, fmt.Sprint("the last lies at ", place), s, els(wholes(1, 2, 3)))
		s.Places = []int{place, 2, 1}
		refuseSpread(t, fmt.Sprint("the first lies at ", place), s, els(wholes(1, 2, 3)))
	}
	for _, n := range []int{-1, -4, api.MaxDomain + 1, 2 * api.MaxDomain, 1 << 40, math.MinInt, math.MaxInt} {
		refuseSpread(t, fmt.Sprint(n, " places"), pad.Shape{N: n}, nil)
		refuseSpread(t, fmt.Sprint(n, " places"), pad.Shape{N: n, Places: []int{0}}, els(wholes(1)))
		for _, count := range []int{0, 1, max(0, min(n, 1<<17))} {
			refuseApply(t, fmt.Sprint(n, " rows"), pad.Shape{N: n}, 0, make([]fr.El, count), api.ErrArg)
		}
	}
	good := at(1, 1, whole(5))
	for _, x := range []api.Entry{at(4, 0, whole(1)), at(0, 4, whole(1)), {Row: math.MaxUint32}, {Col: math.MaxUint32}} {
		for k := range 3 {
			s := pad.Shape{N: 4, X: 2, M: 2}
			s.Rows[k] = []api.Entry{good, x, good}
			refuseApply(t, fmt.Sprint("out of bounds: ", x), s, k, make([]fr.El, 4), api.ErrIndex)
			s.Rows[k][1] = api.Entry{Row: 3, Col: 3, Val: bytesOf(r)}
			refuseApply(t, "no scalar", s, k, make([]fr.El, 4), api.ErrField)
			if l := applied(t, s, (k+1)%3, make([]fr.El, 4)); len(l) != 4 {
				t.Errorf("the matrix %d: %v", k, l)
			}
		}
	}
}
