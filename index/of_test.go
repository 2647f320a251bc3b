package index_test

import (
	"fmt"
	"math"
	"math/big"
	"slices"
	"testing"

	"marlinspike/api"
	"marlinspike/fr"
	"marlinspike/index"
	"marlinspike/pad"
)

// P24.1; and the forms of all calls, and of an Index, which are a part of the promises.
var (
	_ func(s pad.Shape) (index.Index, api.Errno)                     = index.Of
	_ func(x index.Index, e [3]fr.El, a, b fr.El) (fr.El, api.Errno) = index.Index.Sum
	_ func(x index.Index, e [3]fr.El, a fr.El) ([]fr.El, api.Errno)  = index.Index.Poly
	_ func(e [3]fr.El, a, b fr.El) (fr.El, api.Errno)                = index.Index{}.Sum
	_ func(e [3]fr.El, a fr.El) ([]fr.El, api.Errno)                 = index.Index{}.Poly
	_ fieldsOf                                                       = fieldsOf(index.Index{})
)

type fieldsOf struct {
	N, X, M       int
	Row, Col, Val [3][]fr.El
}

func TestExample(t *testing.T) {
	x := indexOf(t, padded(t, square()))
	if x.N != 4 || x.X != 2 || x.M != 2 {
		t.Errorf("%d, %d, %d", x.N, x.X, x.M)
	}
	w, k := elementsOf(4)[1], elementsOf(2)
	one, none := whole(1), whole(0)
	for i, place := range []*big.Int{w, w, minus(1)} {
		wantValues(t, fmt.Sprint("row ", i), x.Row[i], k, []*big.Int{one, one})
		wantValues(t, fmt.Sprint("col ", i), x.Col[i], k, []*big.Int{place, one})
		wantValues(t, fmt.Sprint("val ", i), x.Val[i], k, []*big.Int{per(place, whole(4)), none})
	}
	// A row that is 1 everywhere is 1; col is c on 1 and 1 on -1, val c / 4 and 0.
	for i, c := range []*big.Int{w, w, minus(1)} {
		half, eighth := per(one, whole(2)), per(one, whole(8))
		wantScalars(t, "row", x.Row[i], wholes(1))
		if c.Cmp(minus(1)) == 0 {
			wantScalars(t, "col", x.Col[i], wholes(0, -1))
		} else {
			wantScalars(t, "col", x.Col[i], []*big.Int{times(plus(c, one), half), times(less(c, one), half)})
		}
		wantScalars(t, "val", x.Val[i], []*big.Int{times(c, eighth), times(c, eighth)})
	}
}

// wantScalars fails if a list is not just these numbers'.
func wantScalars(t *testing.T, what string, l []fr.El, wanted []*big.Int) {
	t.Helper()
	if !slices.Equal(l, els(wanted)) {
		t.Errorf("%s: %v, not %v", what, backs(l), wanted)
	}
}

// The greater example, each entry by hand: on the domain of 8, w^j / 8 is what one of 1 at
// the place j makes of val.
func TestByHand(t *testing.T) {
	s := padded(t, cube())
	x := indexOf(t, s)
	if x.N != 8 || x.X != 2 || x.M != 4 {
		t.Errorf("%d, %d, %d", x.N, x.X, x.M)
	}
	h, k := elementsOf(8), elementsOf(4)
	for i, m := range []struct{ rows, places, vals []int64 }{
		{[]int64{0, 1, 2, 2}, []int64{1, 2, 1, 3}, []int64{1, 1, 1, 1}},
		{[]int64{0, 1, 2, 0}, []int64{1, 1, 0, 0}, []int64{1, 1, 1, 0}},
		{[]int64{0, 1, 2, 2}, []int64{2, 3, 0, 4}, []int64{1, 1, -5, 1}},
	} {
		var row, col, val []*big.Int
		for j := range m.rows {
			row, col = append(row, h[m.rows[j]]), append(col, h[m.places[j]])
			val = append(val, per(times(whole(m.vals[j]), col[j]), whole(8)))
		}
		wantValues(t, fmt.Sprint("row ", i), x.Row[i], k, row)
		wantValues(t, fmt.Sprint("col ", i), x.Col[i], k, col)
		wantValues(t, fmt.Sprint("val ", i), x.Val[i], k, val)
	}
}

func TestOf(t *testing.T) {
	s := numbers{state: 1}
	for _, x := range append(sketches(), greatSketches()...) {
		wantIndex(t, fmt.Sprint(x), padded(t, s.drawn(x)))
	}
}

// Entries as no circuit has them: in any order, several at one place, of 0 too. The k-th
// element of K is the k-th entry's, as they stand.
func TestOfShapesByHand(t *testing.T) {
	s := numbers{state: 3}
	for _, x := range manySizes() {
		wantIndex(t, fmt.Sprint(x), s.byHand(x))
	}
	m := entries([3]int64{3, 1, 7}, [3]int64{0, 2, 5}, [3]int64{3, 1, 7}, [3]int64{1, 1, -7}, [3]int64{0, 0, 0})
	for i := range 3 {
		shape := pad.Shape{N: 4, M: 8}
		shape.Rows[i] = m
		wantIndex(t, fmt.Sprint("of one place twice, in ", i), shape)
		x := indexOf(t, shape)
		slices.Reverse(shape.Rows[i])
		if o := indexOf(t, shape); slices.Equal(x.Row[i], o.Row[i]) || slices.Equal(x.Col[i], o.Col[i]) || slices.Equal(x.Val[i], o.Val[i]) {
			t.Errorf("in another order it is the same: %d", i)
		}
	}
}

// Entries on the diagonal, in the first row and column, and in the last ones.
func TestCorners(t *testing.T) {
	s := numbers{state: 4}
	for n := 1; n <= 32; n *= 2 {
		var diagonal, first, last, top, bottom []api.Entry
		for i := range n {
			diagonal = append(diagonal, entry(i, i, s.big()))
			first, last = append(first, entry(i, 0, s.big())), append(last, entry(i, n-1, s.big()))
			top, bottom = append(top, entry(0, i, s.big())), append(bottom, entry(n-1, i, s.big()))
		}
		for i, m := range [][3][]api.Entry{{diagonal, first, last}, {top, bottom, diagonal}, {last, diagonal, top}, {first, first, bottom}} {
			for _, size := range []int{n, 2 * n} {
				wantIndex(t, fmt.Sprintf("%d, %d, %d", n, i, size), pad.Shape{N: n, M: size, Rows: m})
			}
		}
	}
}

// A K that is just full has no place where row and col are 1 and val is 0 unless an entry
// says so; one that has an element more, and so twice as many, has them behind.
func TestBehindTheLast(t *testing.T) {
	s := numbers{state: 5}
	for m := 1; m <= 32; m *= 2 {
		for i := range 3 {
			for count := max(0, m-2); count <= m; count++ {
				shape := pad.Shape{N: 8, X: 2, M: m}
				for range count { // not one of them is like what stands behind
					shape.Rows[i] = append(shape.Rows[i], entry(1+s.below(7), 1+s.below(7), s.big()))
				}
				what := fmt.Sprintf("%d of %d in the matrix %d", count, m, i)
				wantIndex(t, what, shape)
				x := indexOf(t, shape)
				for place, z := range elementsOf(m) {
					row, col, val := worth(backs(x.Row[i]), z), worth(backs(x.Col[i]), z), worth(backs(x.Val[i]), z)
					behind := same(row, whole(1)) && same(col, whole(1)) && same(val, whole(0))
					if ahead := same(row, whole(1)) || same(col, whole(1)) || same(val, whole(0)); behind != (place >= count) || ahead != behind {
						t.Errorf("%s: at %d: %v, %v, %v", what, place, row, col, val)
					}
				}
			}
		}
	}
}

// A matrix of no entries: row and col are 1 and val is 0, as polynomials too.
func TestNoEntries(t *testing.T) {
	full := entries([3]int64{1, 1, 2}, [3]int64{1, 3, 4})
	for i := range 8 {
		shape := pad.Shape{N: 4, X: 2, M: 2}
		for j := range 3 {
			switch {
			case i>>j&1 == 1:
				shape.Rows[j] = full
			case i%2 == 0:
				shape.Rows[j] = []api.Entry{}
			}
		}
		wantIndex(t, fmt.Sprint(i), shape)
		x := indexOf(t, shape)
		for j := range 3 {
			if i>>j&1 == 0 {
				wantScalars(t, "row", x.Row[j], wholes(1))
				wantScalars(t, "col", x.Col[j], wholes(1))
				wantScalars(t, "val", x.Val[j], nil)
			}
		}
	}
	for n := 1; n <= 64; n *= 4 {
		for m := 1; m <= 64; m *= 2 {
			wantIndex(t, fmt.Sprint("none, ", n, m), pad.Shape{N: n, M: m})
		}
	}
}

// powersOf2 are the sizes that domains have.
func powersOf2() (l []int) {
	for n := 1; n <= api.MaxDomain; n *= 2 {
		l = append(l, n)
	}
	return l
}

// noSizes are numbers that are no sizes of domains.
func noSizes() []int {
	return []int{0, -1, -2, -4, -api.MaxDomain, 3, 5, 6, 7, 9, 12, 1000, api.MaxDomain - 1, api.MaxDomain + 1, 3 * api.MaxDomain / 4, 2 * api.MaxDomain, 1 << 20, 1 << 31, 1<<31 + 1, 1 << 32, 1<<32 + 1, 1<<32 + 4, 1 << 47, 1 << 48, 1 << 62, math.MinInt, math.MinInt + 1, math.MinInt + 4, math.MaxInt, math.MaxInt - 1}
}

// Each size that a domain has may be N and M; each with the other one good.
func TestSizes(t *testing.T) {
	one := entries([3]int64{0, 0, 3})
	for _, n := range powersOf2() {
		for _, s := range []pad.Shape{{N: n, X: 1, M: 2, Rows: [3][]api.Entry{one, nil, one}}, {N: 4, X: 1, M: n, Rows: [3][]api.Entry{nil, one, nil}}} {
			x := indexOf(t, s)
			if x.N != s.N || x.X != s.X || x.M != s.M {
				t.Errorf("%d: %d, %d, %d", n, x.N, x.X, x.M)
			}
			if n <= 512 {
				wantIndex(t, fmt.Sprint(n), s)
			}
			p := polyAt(t, x, [3]fr.El{fr.Of(1), fr.Of(2), fr.Of(3)}, fr.Of(5))
			wantInForm(t, fmt.Sprint(n), p, s.N)
			if len(p) != s.N || summed(t, x, [3]fr.El{fr.Of(1), fr.Of(2), fr.Of(3)}, fr.Of(5), fr.Of(7)) == (fr.El{}) {
				t.Errorf("%d: %s", n, brief(x))
			}
		}
	}
}

func TestNoSizes(t *testing.T) {
	m := entries([3]int64{0, 1, 3}, [3]int64{1, 0, 5})
	good := pad.Shape{N: 4, X: 2, M: 2, Inputs: 1, Places: []int{0}, Rows: [3][]api.Entry{m, m, m}}
	x := indexOf(t, good)
	for _, n := range noSizes() {
		for _, rows := range [][3][]api.Entry{{}, good.Rows} {
			s := good
			s.N, s.Rows = n, rows
			refuseOf(t, fmt.Sprint("N ", n), s, api.ErrSize)
			s.N, s.M = 4, n
			refuseOf(t, fmt.Sprint("M ", n), s, api.ErrSize)
			s.N = n
			refuseOf(t, fmt.Sprint("N and M ", n), s, api.ErrSize)
		}
		for _, lists := range []index.Index{{}, x} {
			o := lists
			o.N, o.X, o.M = n, 2, 2
			refuseSums(t, fmt.Sprint("N ", n), o)
			o.N, o.M = 4, n
			refuseSums(t, fmt.Sprint("M ", n), o)
			o.N = n
			refuseSums(t, fmt.Sprint("N and M ", n), o)
		}
	}
}

// An N and an M that are good ones, but for each other, stay apart.
func TestSizesAreTheirOwn(t *testing.T) {
	for _, x := range []struct {
		n, m  int
		entry api.Entry
		e     api.Errno
	}{
		{2, 8, entry(2, 0, whole(1)), api.ErrArg},
		{2, 8, entry(0, 2, whole(1)), api.ErrArg},
		{2, 8, entry(1, 1, whole(1)), api.OK},
		{8, 2, entry(7, 7, whole(1)), api.OK},
		{8, 1, entry(7, 2, whole(1)), api.OK},
		{8, 1, entry(8, 0, whole(1)), api.ErrArg},
		{1, 1, entry(0, 0, whole(1)), api.OK},
		{1, 1, entry(0, 1, whole(1)), api.ErrArg},
		{1, 1, entry(1, 0, whole(1)), api.ErrArg},
	} {
		for i := range 3 {
			s := pad.Shape{N: x.n, M: x.m}
			s.Rows[i] = []api.Entry{x.entry}
			if x.e == api.OK {
				wantIndex(t, fmt.Sprint(x), s)
				continue
			}
			refuseOf(t, fmt.Sprint(x), s, x.e)
		}
	}
}

// Rows and places up to N - 1, and not N; in each matrix, ahead, between and behind.
func TestBounds(t *testing.T) {
	for _, n := range []int{1, 2, 4, 8, 64, 1024, api.MaxDomain} {
		good := entries([3]int64{0, int64(n) - 1, 5}, [3]int64{int64(n) - 1, 0, 6})
		for _, over := range []uint32{0, 1, uint32(n) - 1, uint32(n), uint32(n) + 1, 2 * uint32(n), 1 << 16, 1<<16 + 1, 1 << 31, -uint32(n), math.MaxUint32 - 1, math.MaxUint32} {
			for k, x := range []api.Entry{{Row: over}, {Col: over}, {Row: over, Col: over}} {
				x.Val = bytesOf(whole(7))
				for i := range 9 {
					s := pad.Shape{N: n, X: 1, M: 4, Rows: [3][]api.Entry{good, good, good}}
					s.Rows[i/3] = slices.Insert(slices.Clone(good), i%3, x)
					what := fmt.Sprintf("%d of %d, %d, %d", over, n, k, i)
					if over >= uint32(n) {
						refuseOf(t, what, s, api.ErrArg)
						continue
					}
					if n <= 8 {
						wantIndex(t, what, s)
					}
				}
			}
		}
	}
	n := api.MaxDomain
	s := pad.Shape{N: n, M: 2, Rows: [3][]api.Entry{1: entries([3]int64{int64(n) - 1, int64(n) - 1, 4})}}
	wantIndex(t, "the last one of all", s)
}

// M entries in each matrix, and not one more, whatever they are.
func TestMostEntries(t *testing.T) {
	s := numbers{state: 6}
	for _, m := range []int{1, 2, 4, 16, 64, 256} {
		for i := range 3 {
			shape := s.byHand(sized{8, m, m / 2, m, 1})
			shape.Rows[i] = s.loose(8, m)
			wantIndex(t, fmt.Sprintf("%d in the matrix %d", m, i), shape)
			for _, more := range []int{1, 2, m, 3 * m} {
				o := cloneShape(shape)
				o.Rows[i] = append(o.Rows[i], s.loose(8, more)...)
				refuseOf(t, fmt.Sprintf("%d more than %d in the matrix %d", more, m, i), o, api.ErrArg)
				o.Rows[i] = make([]api.Entry, m+more)
				refuseOf(t, fmt.Sprintf("%d more than %d zeros in the matrix %d", more, m, i), o, api.ErrArg)
			}
		}
	}
	for i := range 3 {
		shape := pad.Shape{N: 2, M: api.MaxDomain}
		shape.Rows[i] = make([]api.Entry, api.MaxDomain+1)
		refuseOf(t, fmt.Sprint("one more than the most in the matrix ", i), shape, api.ErrArg)
		shape.N, shape.M, shape.Rows[i] = api.MaxDomain, 2, shape.Rows[i][:3]
		refuseOf(t, fmt.Sprint("as many as N in the matrix ", i), shape, api.ErrArg)
	}
}

// The most entries that there may be, on the greatest domains: at some elements.
func TestGreatestShape(t *testing.T) {
	const n = api.MaxDomain
	shape := pad.Shape{N: n, X: 1, M: n}
	at := func(k int) (row, col int, val int64) { return (k*77 + 5) % n, (k*13 + 9) % n, int64(k) - 900 }
	for k := range n {
		row, col, val := at(k)
		shape.Rows[1] = append(shape.Rows[1], entry(row, col, whole(val)))
	}
	shape.Rows[2] = shape.Rows[1][:n-1]
	x := indexOf(t, shape)
	h := elementsOf(n)
	for i := range 3 {
		count := len(shape.Rows[i])
		for j, p := range [][]fr.El{x.Row[i], x.Col[i], x.Val[i]} {
			wantInForm(t, fmt.Sprint(i, j), p, n)
			numbers := backs(p)
			for _, k := range []int{0, 1, 900, 40000, n - 2, n - 1} {
				row, col, val := at(k)
				wanted := []*big.Int{h[row], h[col], per(times(whole(val), h[col]), whole(n))}[j]
				if k >= count {
					wanted = wholes(1, 1, 0)[j]
				}
				if got := worth(numbers, h[k]); !same(got, wanted) {
					t.Errorf("%d, %d: at the element %d it is worth %v, not %v", i, j, k, got, wanted)
				}
			}
		}
	}
}

// Scalars of each kind, and bytes that are none, in each matrix and at each place in it.
func TestVals(t *testing.T) {
	great := new(big.Int).Lsh(whole(1), 252)
	bits := new(big.Int).Sub(new(big.Int).Lsh(whole(1), 256), whole(1))
	good := entries([3]int64{0, 1, 3}, [3]int64{2, 3, 4})
	shapeOf := func(i int, val *big.Int) pad.Shape {
		s := pad.Shape{N: 4, X: 2, M: 4, Rows: [3][]api.Entry{good, good, good}}
		s.Rows[i/3] = slices.Insert(slices.Clone(good), i%3, api.Entry{Row: 3, Col: 2, Val: bytesOf(val)})
		return s
	}
	for i := range 9 {
		for _, val := range append(wholes(0, 1, 2, 255, 256, math.MaxInt64), great, minus(1), minus(2), minus(256)) {
			wantIndex(t, fmt.Sprintf("%v in the matrix %d, at %d", val, i/3, i%3), shapeOf(i, val))
		}
		for _, val := range []*big.Int{r, new(big.Int).Add(r, whole(1)), new(big.Int).Lsh(r, 1), new(big.Int).Lsh(great, 1), new(big.Int).Lsh(great, 3), bits} {
			refuseOf(t, fmt.Sprintf("%v in the matrix %d, at %d", val, i/3, i%3), shapeOf(i, val), api.ErrArg)
		}
	}
}

// A Val of 0 leaves row and col as they are.
func TestZeroVal(t *testing.T) {
	for i := range 3 {
		s := pad.Shape{N: 4, M: 1}
		s.Rows[i] = entries([3]int64{1, 2, 0})
		x := indexOf(t, s)
		wantScalars(t, "row", x.Row[i], elementsOf(4)[1:2])
		wantScalars(t, "col", x.Col[i], elementsOf(4)[2:3])
		wantScalars(t, "val", x.Val[i], nil)
	}
}

// Of several faults ErrSize goes ahead, wherever they stand.
func TestFirstError(t *testing.T) {
	bad := [][]api.Entry{
		{{Row: 9, Val: bytesOf(whole(1))}}, {{Col: 9, Val: bytesOf(whole(1))}}, {{Val: bytesOf(r)}}, make([]api.Entry, 300),
		{{Row: math.MaxUint32, Col: math.MaxUint32, Val: api.Scalar{255}}}, slices.Repeat([]api.Entry{{Row: 9, Val: bytesOf(r)}}, 300),
	}
	for i, m := range bad {
		for j, o := range bad {
			for k := range 3 {
				s := pad.Shape{N: 8, X: 2, M: 4}
				s.Rows[k], s.Rows[(k+1)%3] = m, o
				what := fmt.Sprint(i, j, k)
				refuseOf(t, what, s, api.ErrArg)
				s.N = 7
				refuseOf(t, what+", N", s, api.ErrSize)
				s.M = 5
				refuseOf(t, what+", N and M", s, api.ErrSize)
				s.N = 8
				refuseOf(t, what+", M", s, api.ErrSize)
				s.M = 0
				refuseOf(t, what+", M 0", s, api.ErrSize)
				s.M, s.N = 4, 2*api.MaxDomain
				refuseOf(t, what+", great N", s, api.ErrSize)
			}
		}
	}
}

// X is handed on as it stands; and it, the inputs and the places play no part.
func TestXIsHandedOn(t *testing.T) {
	first := indexOf(t, padded(t, cube()))
	for _, x := range append(noSizes(), 1, 2, 4, 8, 16, api.MaxDomain) {
		s := padded(t, cube())
		s.X = x
		got := indexOf(t, s)
		if got.X != x || got.N != 8 || got.M != 4 {
			t.Errorf("%d: %d, %d, %d", x, got.N, got.X, got.M)
		}
		got.X = first.X
		if !sameIndex(got, first) {
			t.Errorf("%d: %s, not %s", x, brief(got), brief(first))
		}
		s.X = 2
		for _, places := range [][]int{{x, x, -x}, {-x, 0, 1, 2, 3}, {-1}, make([]int, 99)} {
			s.Inputs, s.Places = x, places
			if got := indexOf(t, s); !sameIndex(got, first) {
				t.Errorf("%d inputs, places %v: %s, not %s", x, places, brief(got), brief(first))
			}
		}
		s.Places = nil
		if got := indexOf(t, s); !sameIndex(got, first) {
			t.Errorf("without places, %d: %s, not %s", x, brief(got), brief(first))
		}
	}
}

// fault is what a shape is refused by.
func fault(s pad.Shape) api.Errno {
	if !slices.Contains(powersOf2(), s.N) || !slices.Contains(powersOf2(), s.M) {
		return api.ErrSize
	}
	for _, m := range s.Rows {
		for k, x := range m {
			if k >= s.M || uint64(x.Row) >= uint64(s.N) || uint64(x.Col) >= uint64(s.N) || numberOf(x.Val).Cmp(r) >= 0 {
				return api.ErrArg
			}
		}
	}
	return api.OK
}

// spoilt is a shape with so many flaws of any kind.
func (s *numbers) spoilt(shape pad.Shape, count int) pad.Shape {
	shape = cloneShape(shape)
	edges := []uint32{0, 1, 3, 7, 8, 9, 1 << 16, 1<<16 + 1, 1 << 31, math.MaxUint32}
	vals := []api.Scalar{{}, bytesOf(whole(1)), bytesOf(minus(1)), bytesOf(r), bytesOf(new(big.Int).Add(r, whole(1))), {255}}
	for range count {
		m := &shape.Rows[s.below(3)]
		switch kind := s.below(12); {
		case kind == 0:
			*[]*int{&shape.N, &shape.M}[s.below(2)] = append(noSizes(), 1, 2, 4, 8, 16)[s.below(len(noSizes())+5)]
		case kind == 1:
			*m = append(*m, s.loose(4, s.below(9))...)
		case kind == 2:
			shape.M = 1 << s.below(5)
		case len(*m) == 0:
			*m = s.loose(4, 1)
		case kind < 7:
			x := &(*m)[s.below(len(*m))]
			*[]*uint32{&x.Row, &x.Col}[s.below(2)] = edges[s.below(len(edges))]
		default:
			(*m)[s.below(len(*m))].Val = vals[s.below(len(vals))]
		}
	}
	return shape
}

// Of any flaws it is what the model tells.
func TestAnyFlaws(t *testing.T) {
	s := numbers{state: 7}
	told := map[api.Errno]int{}
	for i := range 2000 {
		shape := s.spoilt(s.byHand(sized{8, 8, s.below(9), s.below(9), s.below(9)}), i%4)
		wanted := fault(shape)
		told[wanted]++
		what := fmt.Sprint("the shape ", i)
		if wanted == api.OK {
			wantIndex(t, what, shape)
			continue
		}
		refuseOf(t, what, shape, wanted)
	}
	if told[api.OK] < 200 || told[api.ErrArg] < 200 || told[api.ErrSize] < 100 || len(told) != 3 {
		t.Errorf("too few: %v", told)
	}
}
