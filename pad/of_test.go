package pad_test

import (
	"fmt"
	"math"
	"math/big"
	"slices"
	"testing"

	"marlinspike/api"
	"marlinspike/fr"
	"marlinspike/pad"
)

// P23.1; and the forms of all calls, and of a Shape, which are a part of the promises.
var (
	_ func(c api.Circuit) (pad.Shape, api.Errno)               = pad.Of
	_ func(s pad.Shape, z []fr.El) ([]fr.El, api.Errno)        = pad.Shape.Spread
	_ func(s pad.Shape, k int, z []fr.El) ([]fr.El, api.Errno) = pad.Shape.Apply
	_ func(z []fr.El) ([]fr.El, api.Errno)                     = pad.Shape{}.Spread
	_ fieldsOf                                                 = fieldsOf(pad.Shape{})
)

type fieldsOf struct {
	N, X, M int
	Inputs  int
	Places  []int
	Rows    [3][]api.Entry
}

func TestExamples(t *testing.T) {
	of := func(row, place, val int64) []api.Entry { return entries([3]int64{row, place, val}) }
	s := pad.Shape{N: 4, X: 2, M: 2, Inputs: 2, Places: []int{0, 2, 1}, Rows: [3][]api.Entry{of(0, 1, 1), of(0, 1, 1), of(0, 2, 1)}}
	wantShape(t, "x x = y", square(), s)
	s = padOf(t, square())
	wantSpread(t, "1 9 3", s, wholes(1, 9, 3), wholes(1, 3, 9, 0))
	for k, x := range [][]int64{{3, 0, 0, 0}, {3, 0, 0, 0}, {9, 0, 0, 0}} {
		wantSums(t, fmt.Sprint("x x = y, ", k), s, k, wholes(1, 3, 9, 0), wholes(x...))
	}
	s = padOf(t, cube())
	if s.N != 8 || s.X != 2 || s.M != 4 || s.Inputs != 2 || !slices.Equal(s.Places, []int{0, 4, 1, 2, 3}) {
		t.Errorf("x x x + x + 5 = y: %v", s)
	}
	laid := wholes(1, 3, 9, 27, 35, 0, 0, 0)
	wantSpread(t, "1 35 3 9 27", s, wholes(1, 35, 3, 9, 27), laid)
	for k, x := range [][]int64{{3, 9, 30}, {3, 3, 1}, {9, 27, 30}} {
		wantSums(t, fmt.Sprint("x x x + x + 5 = y, ", k), s, k, laid, append(wholes(x...), wholes(0, 0, 0, 0, 0)...))
	}
}

// Each padded entry, told by hand.
func TestEntriesByHand(t *testing.T) {
	wantShape(t, "x x x + x + 5 = y", cube(), pad.Shape{
		N: 8, X: 2, M: 4, Inputs: 2, Places: []int{0, 4, 1, 2, 3},
		Rows: [3][]api.Entry{
			entries([3]int64{0, 1, 1}, [3]int64{1, 2, 1}, [3]int64{2, 1, 1}, [3]int64{2, 3, 1}),
			entries([3]int64{0, 1, 1}, [3]int64{1, 1, 1}, [3]int64{2, 0, 1}),
			entries([3]int64{0, 2, 1}, [3]int64{1, 3, 1}, [3]int64{2, 0, -5}, [3]int64{2, 4, 1}),
		},
	})
	wantShape(t, "in another order", knotted(), pad.Shape{
		N: 8, X: 4, M: 16, Inputs: 3, Places: []int{0, 2, 4, 1, 3, 5, 7},
		Rows: [3][]api.Entry{
			entries([3]int64{0, 0, 1}, [3]int64{0, 1, 4}, [3]int64{0, 2, 2}, [3]int64{0, 3, 5}, [3]int64{0, 4, 3}, [3]int64{0, 5, 6}, [3]int64{0, 7, 7}, [3]int64{1, 2, 8}, [3]int64{1, 7, 9}),
			entries([3]int64{1, 0, 1}, [3]int64{1, 1, 3}, [3]int64{1, 4, 2}),
			nil,
		},
	})
	wantShape(t, "the least", api.Circuit{Rows: 1, Cols: 1, Inputs: 1}, pad.Shape{N: 2, X: 1, M: 2, Inputs: 1, Places: []int{0}})
}

func TestOf(t *testing.T) {
	s := numbers{state: 1}
	for _, x := range append(sketches(), greatSketches()...) {
		c := s.drawn(x)
		wantShape(t, fmt.Sprint(x), c, shapeOf(c))
	}
}

// Sizes that are told by hand: of each the three numbers that n is not below.
func TestSizes(t *testing.T) {
	for _, x := range []struct {
		rows, cols, inputs uint32
		n, x               int
	}{
		{1, 1, 1, 2, 1},                // 1, 1, 2
		{2, 1, 1, 2, 1},                // 2, 1, 2
		{3, 1, 1, 4, 1},                // 3, 1, 2
		{4, 1, 1, 4, 1},                // 4, 1, 2
		{5, 1, 1, 8, 1},                // 5, 1, 2
		{1, 2, 1, 2, 1},                // 1, 2, 2
		{1, 3, 1, 4, 1},                // 1, 3, 2
		{1, 4, 1, 4, 1},                // 1, 4, 2
		{1, 5, 1, 8, 1},                // 1, 5, 2
		{1, 2, 2, 4, 2},                // 1, 2, 4
		{1, 3, 2, 4, 2},                // 1, 3, 4
		{1, 4, 2, 4, 2},                // 1, 4, 4
		{1, 5, 2, 8, 2},                // 1, 5, 4
		{1, 3, 3, 8, 4},                // 1, 4, 8
		{1, 4, 3, 8, 4},                // 1, 5, 8
		{1, 7, 3, 8, 4},                // 1, 8, 8
		{1, 8, 3, 16, 4},               // 1, 9, 8
		{1, 4, 4, 8, 4},                // 1, 4, 8
		{1, 8, 4, 8, 4},                // 1, 8, 8
		{1, 9, 4, 16, 4},               // 1, 9, 8
		{1, 5, 5, 16, 8},               // 1, 8, 16
		{1, 13, 5, 16, 8},              // 1, 16, 16
		{1, 14, 5, 32, 8},              // 1, 17, 16
		{7, 8, 4, 8, 4},                // 7, 8, 8
		{8, 8, 4, 8, 4},                // 8, 8, 8
		{9, 8, 4, 16, 4},               // 9, 8, 8
		{16, 5, 5, 16, 8},              // 16, 8, 16
		{17, 5, 5, 32, 8},              // 17, 8, 16
		{15, 7, 7, 16, 8},              // 15, 8, 16
		{15, 8, 8, 16, 8},              // 15, 8, 16
		{15, 9, 9, 32, 16},             // 15, 16, 32
		{512, 1, 1, 512, 1},            // 512, 1, 2
		{513, 1, 1, 1024, 1},           // 513, 1, 2
		{1023, 2, 2, 1024, 2},          // 1023, 2, 4
		{1024, 1, 1, 1024, 1},          // 1024, 1, 2
		{1024, 256, 256, 1024, 256},    // 1024, 256, 512
		{1, 256, 256, 512, 256},        // 1, 256, 512
		{600, 600, 300, 1024, 512},     // 600, 812, 1024
		{1, 511, 511, 1024, 512},       // 1, 512, 1024
		{1, 512, 512, 1024, 512},       // 1, 512, 1024
		{1, 513, 513, 2048, 1024},      // 1, 1024, 2048
		{1, 1023, 1, 1024, 1},          // 1, 1023, 2
		{1, 1024, 1, 1024, 1},          // 1, 1024, 2
		{1024, 1024, 1, 1024, 1},       // 1024, 1024, 2
		{1024, 1024, 2, 1024, 2},       // 1024, 1024, 4
		{1024, 1024, 3, 2048, 4},       // 1024, 1025, 8
		{1, 1023, 3, 1024, 4},          // 1, 1024, 8
		{1, 1024, 256, 1024, 256},      // 1, 1024, 512
		{1, 1024, 257, 2048, 512},      // 1, 1279, 1024
		{1, 1024, 511, 2048, 512},      // 1, 1025, 1024
		{1, 1024, 512, 1024, 512},      // 1, 1024, 1024
		{1, 1024, 513, 2048, 1024},     // 1, 1535, 2048
		{1, 1024, 1023, 2048, 1024},    // 1, 1025, 2048
		{1, 1024, 1024, 2048, 1024},    // 1, 1024, 2048
		{1024, 1024, 1024, 2048, 1024}, // 1024, 1024, 2048
	} {
		s := padOf(t, api.Circuit{Rows: x.rows, Cols: x.cols, Inputs: x.inputs})
		if s.N != x.n || s.X != x.x || s.M != 2 || s.Inputs != int(x.inputs) || len(s.Places) != int(x.cols) {
			t.Errorf("%v: %v", x, s)
		}
	}
}

// Of small circuits each, and of greater ones those at the edges.
func TestEverySize(t *testing.T) {
	want := func(rows, cols, inputs int) {
		c := api.Circuit{Rows: uint32(rows), Cols: uint32(cols), Inputs: uint32(inputs)}
		wantShape(t, fmt.Sprintf("%d rows, %d columns, %d inputs", rows, cols, inputs), c, shapeOf(c))
	}
	for rows := 1; rows <= 18; rows++ {
		for cols := 1; cols <= 34; cols++ {
			for inputs := 1; inputs <= cols; inputs++ {
				want(rows, cols, inputs)
			}
		}
	}
	edges := []int{1, 2, 3, 127, 128, 129, 255, 256, 257, 511, 512, 513, 700, 1023, 1024}
	for _, cols := range edges {
		for _, inputs := range append(edges, cols-1, cols-2, cols/2) {
			for _, rows := range []int{1, 2, cols, 511, 512, 513, 1023, 1024} {
				if inputs >= 1 && inputs <= cols {
					want(rows, cols, inputs)
				}
			}
		}
	}
}

// All inputs, and all rows: what they make of n and x stays far below what a domain may
// have; each of n, x and m is the least that may be.
func TestLeastSizes(t *testing.T) {
	least := func(what string, p int, bounds ...int) {
		if leastFrom(p) != p || p < slices.Max(bounds) || p/2 >= slices.Max(bounds) || p > api.MaxDomain/16 {
			t.Errorf("%s: %d is not the least of %v", what, p, bounds)
		}
	}
	for i := range 1024 {
		for _, x := range [][3]int{{1, 1024, i + 1}, {1024, 1024, i + 1}, {i + 1, 1, 1}, {i + 1, 512, 256}, {1, i + 1, 1}, {1, i + 1, i/2 + 1}, {i/3 + 1, i + 1, i + 1}} {
			rows, cols, inputs := x[0], x[1], x[2]
			s := padOf(t, api.Circuit{Rows: uint32(rows), Cols: uint32(cols), Inputs: uint32(inputs)})
			least(fmt.Sprint("x of ", x), s.X, inputs)
			least(fmt.Sprint("n of ", x), s.N, rows, s.X+cols-inputs, 2*s.X)
			if s.M != 2 || s.Inputs != inputs || s.N > 2048 {
				t.Errorf("%v: %v", x, s)
			}
		}
	}
}

// filled is a matrix of so many entries, at the first places of so many columns.
func filled(count, cols int) (m []api.Entry) {
	for i := range count {
		m = append(m, at(i/cols, i%cols, whole(int64(i+1))))
	}
	return m
}

// Each number of entries up to some, and at each power of 2, in one matrix and in more.
func TestCounts(t *testing.T) {
	m := map[int]int{0: 2, 1: 2, 2: 2, 3: 4, 4: 4, 5: 8, 8: 8, 9: 16, 16: 16, 17: 32, 64: 64, 65: 128, 1000: 1024, 1024: 1024, 1025: 2048, 2047: 2048, 2048: 2048, 2049: 4096, 4095: 4096, 4096: 4096}
	counts := []int{0, 1, 2, 3, 4, 5, 8, 9, 16, 17, 64, 65, 1000, 1024, 1025, 2047, 2048, 2049, 4095, 4096}
	for j, count := range counts {
		for i := range 3 {
			for _, others := range []int{0, 1, counts[max(0, j-1)], count} {
				if others > count {
					continue
				}
				c := api.Circuit{Rows: 64, Cols: 64, Inputs: 5}
				for _, l := range matrices(&c) {
					*l = filled(others, 64)
				}
				*matrices(&c)[i] = filled(count, 64)
				s := padOf(t, c)
				if s.M != m[count] || s.N != 128 || s.X != 8 || len(s.Rows[i]) != count || len(s.Rows[(i+1)%3]) != others || len(s.Rows[(i+2)%3]) != others {
					t.Errorf("%d in the matrix %d, %d in the others: %d, %d, %d", count, i, others, s.N, s.X, s.M)
				}
			}
		}
	}
	for count := range 300 {
		for i := range 3 {
			c := api.Circuit{Rows: 5, Cols: 64, Inputs: 64}
			*matrices(&c)[i] = filled(count, 64)
			wantShape(t, fmt.Sprintf("%d in the matrix %d", count, i), c, shapeOf(c))
		}
	}
}

// How many entries there are plays no part in n and x, nor rows and columns in m.
func TestSizesHangOnTheirOwnNumbers(t *testing.T) {
	for _, count := range []int{0, 1, 9, 64} {
		m := filled(count, 8)
		for _, rows := range []uint32{8, 9, 600, 1024} {
			for _, cols := range []uint32{8, 9, 513, 1024} {
				for _, inputs := range []uint32{1, 7, 8} {
					with := padOf(t, api.Circuit{Rows: rows, Cols: cols, Inputs: inputs, A: m, B: m, C: m})
					without := padOf(t, api.Circuit{Rows: rows, Cols: cols, Inputs: inputs})
					if with.N != without.N || with.X != without.X || !slices.Equal(with.Places, without.Places) || with.M != max(2, leastFrom(max(1, count))) {
						t.Errorf("%d entries, %d, %d, %d: %v", count, rows, cols, inputs, with)
					}
				}
			}
		}
	}
}

// Places that are told by hand.
func TestPlaces(t *testing.T) {
	for _, x := range []struct {
		rows, cols, inputs uint32
		places             []int
	}{
		{1, 1, 1, []int{0}},
		{1, 2, 1, []int{0, 1}},
		{9, 2, 1, []int{0, 1}},
		{1, 5, 1, []int{0, 1, 2, 3, 4}},
		{1, 2, 2, []int{0, 2}},
		{8, 2, 2, []int{0, 4}},
		{1, 4, 2, []int{0, 2, 1, 3}},
		{1, 5, 2, []int{0, 4, 1, 2, 3}},
		{1, 6, 2, []int{0, 4, 1, 2, 3, 5}},
		{1, 8, 2, []int{0, 4, 1, 2, 3, 5, 6, 7}},
		{1, 3, 3, []int{0, 2, 4}},
		{1, 7, 3, []int{0, 2, 4, 1, 3, 5, 7}},
		{1, 8, 3, []int{0, 4, 8, 1, 2, 3, 5, 6}},
		{1, 15, 3, []int{0, 4, 8, 1, 2, 3, 5, 6, 7, 9, 10, 11, 13, 14, 15}},
		{1, 4, 4, []int{0, 2, 4, 6}},
		{1, 5, 4, []int{0, 2, 4, 6, 1}},
		{1, 8, 4, []int{0, 2, 4, 6, 1, 3, 5, 7}},
		{17, 8, 4, []int{0, 8, 16, 24, 1, 2, 3, 4}},
		{1, 5, 5, []int{0, 2, 4, 6, 8}},
		{1, 13, 5, []int{0, 2, 4, 6, 8, 1, 3, 5, 7, 9, 11, 13, 15}},
		{1024, 9, 2, []int{0, 512, 1, 2, 3, 4, 5, 6, 7}},
	} {
		s := padOf(t, api.Circuit{Rows: x.rows, Cols: x.cols, Inputs: x.inputs})
		if !slices.Equal(s.Places, x.places) {
			t.Errorf("%d, %d, %d: %v, not %v", x.rows, x.cols, x.inputs, s.Places, x.places)
		}
	}
}

// Rows that are full: each is sorted anew, by itself, and each entry's scalar stays its.
func TestSortedAnew(t *testing.T) {
	for _, x := range [][3]int{{1, 3, 2}, {3, 7, 3}, {5, 8, 8}, {4, 20, 3}, {9, 40, 33}, {1, 1024, 300}, {4, 1024, 1023}} {
		rows, cols := x[0], x[1]
		m := filled(rows*cols, cols)
		c := api.Circuit{Rows: uint32(rows), Cols: uint32(cols), Inputs: uint32(x[2]), A: m, B: m[:cols], C: m[len(m)/2:]}
		s := padOf(t, c)
		order := slices.Sorted(slices.Values(s.Places))
		if x[2] < cols && slices.Equal(order, s.Places) {
			t.Errorf("%v: no order is another one", x)
		}
		if len(s.Rows[0]) != rows*cols || len(s.Rows[1]) != cols || len(s.Rows[2]) != len(m)-len(m)/2 {
			t.Fatalf("%v: %d, %d, %d entries", x, len(s.Rows[0]), len(s.Rows[1]), len(s.Rows[2]))
		}
		for i, y := range s.Rows[0] {
			row, col := i/cols, slices.Index(s.Places, order[i%cols])
			if wanted := at(row, order[i%cols], whole(int64(row*cols+col+1))); y != wanted {
				t.Errorf("%v: the entry %d is %v, not %v", x, i, y, wanted)
			}
		}
		wantShape(t, fmt.Sprint(x), c, shapeOf(c))
	}
}

// Pairs of entries of one row, and of two, at each two columns.
func TestPairsOfEntries(t *testing.T) {
	const rows, cols = 2, 7
	at3 := []int{0, 2, 4, 1, 3, 5, 7} // the places of 3 inputs and 4 others
	for first := range rows * cols {
		for second := first + 1; second < rows*cols; second++ {
			x, y := at(first/cols, first%cols, whole(5)), at(second/cols, second%cols, whole(6))
			a, b := at(first/cols, at3[first%cols], whole(5)), at(second/cols, at3[second%cols], whole(6))
			wanted := []api.Entry{a, b}
			if a.Row == b.Row && a.Col > b.Col {
				wanted = []api.Entry{b, a}
			}
			for i := range 3 {
				c := api.Circuit{Rows: rows, Cols: cols, Inputs: 3}
				*matrices(&c)[i] = []api.Entry{x, y}
				s := padOf(t, c)
				if !slices.Equal(s.Rows[i], wanted) || len(s.Rows[(i+1)%3])+len(s.Rows[(i+2)%3]) > 0 {
					t.Errorf("%d, %d: %v, not %v", first, second, s.Rows, wanted)
				}
			}
		}
	}
}

// Each matrix is its own.
func TestMatrices(t *testing.T) {
	a, b, p := entries([3]int64{0, 1, 7}), entries([3]int64{1, 2, 8}), entries([3]int64{0, 0, 9})
	for _, x := range [][3][]api.Entry{{a, b, p}, {b, p, a}, {p, a, b}, {a, a, a}, {nil, b, nil}, {a, nil, nil}, {nil, nil, p}, {}} {
		c := api.Circuit{Rows: 2, Cols: 3, Inputs: 2, A: x[0], B: x[1], C: x[2]}
		wantShape(t, fmt.Sprint(x), c, shapeOf(c))
	}
}

// Scalars stay as they are, the least and the greatest.
func TestScalarsStay(t *testing.T) {
	great := new(big.Int).Lsh(whole(1), 252)
	for _, k := range append(wholes(1, 2, 255, 256, math.MaxInt64), great, minus(1), minus(256)) {
		for i := range 3 {
			c := square()
			(*matrices(&c)[i])[0].Val = bytesOf(k)
			s := padOf(t, c)
			for j, m := range s.Rows {
				if wanted := map[bool]*big.Int{true: k, false: whole(1)}[i == j]; len(m) != 1 || m[0].Val != bytesOf(wanted) {
					t.Errorf("%v in the matrix %d: %v", k, i, s)
				}
			}
		}
	}
}

// What is no circuit, by each error.
func TestRefused(t *testing.T) {
	for _, n := range []uint32{0, api.MaxRows + 1, 1 << 16, 1<<16 + 1, 1 << 31, math.MaxUint32} {
		c := square()
		c.Rows = n
		refuseOf(t, fmt.Sprint(n, " rows"), c, api.ErrArg)
		c = square()
		c.Cols = n
		refuseOf(t, fmt.Sprint(n, " columns"), c, api.ErrArg)
		c = square()
		c.Inputs = n
		refuseOf(t, fmt.Sprint(n, " inputs"), c, api.ErrArg)
	}
	for cols := uint32(1); cols <= 1024; cols += 93 {
		refuseOf(t, fmt.Sprint("more inputs than ", cols), api.Circuit{Rows: 1, Cols: cols, Inputs: cols + 1}, api.ErrArg)
	}
	refuseOf(t, "nothing", api.Circuit{}, api.ErrArg)
	for i := range 3 {
		what := fmt.Sprint("in the matrix ", i)
		refuse := func(what string, wanted api.Errno, m ...api.Entry) {
			c := square()
			*matrices(&c)[i] = m
			refuseOf(t, fmt.Sprint(what, " in the matrix ", i), c, wanted)
		}
		refuse("a row beyond", api.ErrIndex, at(1, 0, whole(1)))
		refuse("a column beyond", api.ErrIndex, at(0, 3, whole(1)))
		refuse("a column that is a place alone", api.ErrIndex, at(0, 1, whole(1)), at(0, 3, whole(1)))
		refuse("one twice", api.ErrIndex, at(0, 1, whole(1)), at(0, 1, whole(2)))
		refuse("out of order", api.ErrIndex, at(0, 2, whole(1)), at(0, 1, whole(1)))
		refuse("no scalar", api.ErrField, api.Entry{Val: bytesOf(r)})
		refuse("no scalar behind", api.ErrField, at(0, 1, whole(1)), api.Entry{Col: 2, Val: bytesOf(r)})
		refuse("0", api.ErrZero, api.Entry{})
		refuse("0 behind", api.ErrZero, at(0, 1, whole(1)), api.Entry{Col: 2})
		c := api.Circuit{Rows: 1024, Cols: 1024, Inputs: 1}
		*matrices(&c)[i] = filled(api.MaxEntry, 1024)
		wantShape(t, "the most "+what, c, shapeOf(c))
		*matrices(&c)[i] = filled(api.MaxEntry+1, 1024)
		refuseOf(t, "one more "+what, c, api.ErrLong)
		*matrices(&c)[i] = make([]api.Entry, api.MaxDomain+1)
		refuseOf(t, "more than a domain has "+what, c, api.ErrLong)
	}
}

// An entry's columns are refused as columns, though there are places that are as great.
func TestColumnsAreNoPlaces(t *testing.T) {
	c := square()
	c.A[0].Col = 3
	refuseOf(t, "the last place", c, api.ErrIndex)
	c = cube()
	for col := range uint32(10) {
		c.B[2].Col = col
		if col < 5 {
			wantShape(t, fmt.Sprint("the column ", col), c, shapeOf(c))
			continue
		}
		refuseOf(t, fmt.Sprint("the column ", col), c, api.ErrIndex)
	}
}

// counts are numbers at the edges.
func counts() []uint32 {
	return []uint32{0, 1, 2, 3, api.MaxRows - 1, api.MaxRows, api.MaxRows + 1, 1 << 16, 1<<16 + 1, 1 << 31, math.MaxUint32}
}

// values are scalars' bytes, and such as are none.
func values() []api.Scalar {
	return []api.Scalar{{}, bytesOf(whole(1)), bytesOf(whole(7)), bytesOf(minus(1)), bytesOf(r), bytesOf(new(big.Int).Add(r, whole(1))), {255}}
}

// spoilt is a circuit with so many flaws of any kind.
func (s *numbers) spoilt(c api.Circuit, count int) api.Circuit {
	c = clone(c)
	for range count {
		m := matrices(&c)[s.below(3)]
		switch kind := s.below(12); {
		case kind == 0:
			*[]*uint32{&c.Rows, &c.Cols, &c.Inputs}[s.below(3)] = counts()[s.below(len(counts()))]
		case kind == 1 && s.below(4) == 0:
			*m = make([]api.Entry, api.MaxEntry+1)
		case len(*m) == 0:
			*m = append(*m, at(s.below(5), s.below(5), whole(int64(s.below(2)))))
		case kind < 4:
			i, j := s.below(len(*m)), s.below(len(*m))
			(*m)[i], (*m)[j] = (*m)[j], (*m)[i]
		case kind < 7:
			x := &(*m)[s.below(len(*m))]
			*[]*uint32{&x.Row, &x.Col}[s.below(2)] = uint32(s.below(8))
		default:
			(*m)[s.below(len(*m))].Val = values()[s.below(len(values()))]
		}
	}
	return c
}

// Of any flaws it is what the model tells.
func TestAnyFlaws(t *testing.T) {
	s := numbers{state: 2}
	told := map[api.Errno]int{}
	for i := range 5000 {
		c := s.spoilt(s.drawn(sketches()[6+i%12]), i%4)
		wanted := fault(c)
		told[wanted]++
		what := fmt.Sprint("the circuit ", i)
		if wanted == api.OK {
			wantShape(t, what, c, shapeOf(c))
			continue
		}
		refuseOf(t, what, c, wanted)
	}
	for _, e := range []api.Errno{api.OK, api.ErrArg, api.ErrLong, api.ErrIndex, api.ErrField, api.ErrZero} {
		if told[e] < 50 {
			t.Errorf("too few are %v: %v", e, told)
		}
	}
}
