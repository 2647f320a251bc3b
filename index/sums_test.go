package index_test

import (
	"fmt"
	"math/big"
	"slices"
	"testing"

	"marlinspike/api"
	"marlinspike/fr"
	"marlinspike/index"
	"marlinspike/pad"
)

// P24.2

// The example by hand: one entry a matrix, in row 0, so that the sum is u(a, 1) times, of
// each, its e times c u(b, c) / 4, c being w, w, -1.
func TestSumsByHand(t *testing.T) {
	x := indexOf(t, padded(t, square()))
	w := elementsOf(4)[1]
	e, a, b := [3]*big.Int{whole(2), whole(3), whole(5)}, whole(7), whole(11)
	ua := whole(1 + 7 + 49 + 343)
	uw := plus(plus(raised(b, 3), times(raised(b, 2), w)), plus(times(b, w, w), times(w, w, w)))
	um := whole(1331 - 121 + 11 - 1)
	quarter := per(whole(1), whole(4))
	wanted := less(times(whole(5), w, uw), times(whole(5), um))
	if got := summed(t, x, three(e), el(a), el(b)); got != el(times(ua, quarter, wanted)) {
		t.Errorf("%v, not %v", back(got), times(ua, quarter, wanted))
	}
	var p []*big.Int
	for i := range 4 {
		scalar := less(times(whole(5), raised(w, 4-i)), times(whole(5), raised(minus(1), 3-i)))
		p = append(p, times(ua, quarter, scalar))
	}
	wantScalars(t, "Poly", polyAt(t, x, three(e), el(a)), p)
}

// At several a and b, by several e.
func TestSums(t *testing.T) {
	s := numbers{state: 10}
	for i, x := range append(sketches(), greatSketches()...) {
		shape := padded(t, s.drawn(x))
		got, wanted := indexOf(t, shape), matricesOf(shape)
		for j := range 4 {
			if shape.N > 500 && j > 0 {
				break
			}
			wantSums(t, fmt.Sprint(i, x), got, wanted, s.triple(), s.big(), []*big.Int{s.big(), s.big()})
		}
	}
}

// Of shapes that no circuit has, too.
func TestSumsOfShapesByHand(t *testing.T) {
	s := numbers{state: 11}
	for i, x := range manySizes() {
		shape := s.byHand(x)
		got, wanted := indexOf(t, shape), matricesOf(shape)
		for range 2 {
			wantSums(t, fmt.Sprint(i, x), got, wanted, s.triple(), s.big(), []*big.Int{s.big(), s.big()})
		}
	}
}

// At 0, 1, r - 1, elements of H, beside them, and of two that are alike.
func TestPlacesOfSums(t *testing.T) {
	s := numbers{state: 12}
	for _, size := range []sized{{1, 2, 2, 1, 0}, {2, 4, 4, 3, 2}, {4, 4, 3, 4, 0}, {8, 16, 16, 9, 11}} {
		shape := s.byHand(size)
		got, wanted := indexOf(t, shape), matricesOf(shape)
		places := append(wholes(0, 1, 2, -1), minus(2), s.big(), elementsOf(2 * size.n)[1])
		places = append(places, elementsOf(size.n)...)
		for _, a := range places {
			wantSums(t, fmt.Sprint(size), got, wanted, s.triple(), a, places)
		}
	}
}

// By e of 0, of one that is not 0, of 1 and of r - 1.
func TestScalarsOfSums(t *testing.T) {
	s := numbers{state: 13}
	edges := append(wholes(0, 1, -1), s.big())
	for _, size := range []sized{{1, 1, 1, 1, 1}, {4, 8, 7, 8, 5}, {8, 4, 4, 4, 4}, {4, 4, 0, 3, 4}} {
		shape := s.byHand(size)
		got, wanted := indexOf(t, shape), matricesOf(shape)
		for i := range 64 {
			e := [3]*big.Int{edges[i%4], edges[i/4%4], edges[i/16]}
			wantSums(t, fmt.Sprint(size), got, wanted, e, s.big(), []*big.Int{s.big()})
		}
		if p := polyAt(t, got, [3]fr.El{}, el(s.big())); len(p) != 0 {
			t.Errorf("%v: by three 0 it is %v", size, backs(p))
		}
		if sum := summed(t, got, [3]fr.El{}, el(s.big()), el(s.big())); sum != (fr.El{}) {
			t.Errorf("%v: by three 0 it is %v", size, back(sum))
		}
	}
}

// undoing are scalars by which two matrices undo each other, if both are alike.
func undoing(i, j int, k *big.Int) (e [3]*big.Int) {
	e = [3]*big.Int{whole(0), whole(0), whole(0)}
	e[i], e[j] = k, less(whole(0), k)
	return e
}

// Matrices that undo each other leave the empty polynomial.
func TestUndone(t *testing.T) {
	s := numbers{state: 14}
	for n := 1; n <= 16; n *= 2 {
		for i := range 3 {
			j := (i + 1) % 3
			m := s.loose(n, 8)
			shape := pad.Shape{N: n, X: 1, M: 8}
			shape.Rows[i], shape.Rows[j], shape.Rows[3-i-j] = m, m, s.loose(n, 5)
			x, e := indexOf(t, shape), undoing(i, j, s.big())
			wantSums(t, "undone", x, matricesOf(shape), e, s.big(), []*big.Int{s.big()})
			if p := polyAt(t, x, three(e), el(s.big())); len(p) != 0 {
				t.Errorf("%d, %d: %v", n, i, backs(p))
			}
			slices.Reverse(shape.Rows[j]) // in another order, they still do
			if p := polyAt(t, indexOf(t, shape), three(e), el(s.big())); len(p) != 0 {
				t.Errorf("%d, %d, in another order: %v", n, i, backs(p))
			}
			e[3-i-j] = whole(1) // and so is left what the third one makes
			wantSums(t, "undone, but for one", x, matricesOf(shape), e, s.big(), []*big.Int{s.big()})
		}
	}
	// At an a that is an element of H, rows but its own are 0: so there is nothing, too.
	shape := pad.Shape{N: 4, M: 2, Rows: [3][]api.Entry{entries([3]int64{0, 1, 3}, [3]int64{2, 3, 4}), entries([3]int64{0, 0, 5}), nil}}
	x := indexOf(t, shape)
	for place, a := range elementsOf(4) {
		p := polyAt(t, x, three(s.triple()), el(a))
		if (len(p) == 0) != (place%2 == 1) {
			t.Errorf("at the element %d it is %v", place, backs(p))
		}
	}
}

// Polynomials of each length from 1 to N: a row whose entries are what a polynomial of so
// many scalars is worth on H, times any number.
func TestShorter(t *testing.T) {
	s := numbers{state: 15}
	for n := 1; n <= 16; n *= 2 {
		h := elementsOf(n)
		for length := 1; length <= n; length++ {
			shape := pad.Shape{N: n, X: 1, M: n}
			p := append(s.list(length-1), s.big())
			row := s.below(n)
			for place, z := range h {
				shape.Rows[place%3] = append(shape.Rows[place%3], entry(row, place, worth(p, z)))
			}
			x := indexOf(t, shape)
			a, k := s.big(), s.big()
			for v(n, a).Sign() == 0 { // there rows but a's own are 0
				a = s.big()
			}
			e := [3]*big.Int{k, k, k}
			got := polyAt(t, x, three(e), el(a))
			var wanted []*big.Int
			for _, scalar := range p {
				wanted = append(wanted, times(scalar, k, u(n, a, h[row])))
			}
			wantScalars(t, fmt.Sprintf("%d of %d", length, n), got, wanted)
			wantSums(t, fmt.Sprintf("%d of %d", length, n), x, matricesOf(shape), e, a, []*big.Int{s.big()})
		}
	}
}

// Two entries that undo each other at the highest scalar alone: one less than N.
func TestHighestUndone(t *testing.T) {
	h := elementsOf(8)
	for place := 1; place < 8; place++ {
		shape := pad.Shape{N: 8, M: 1, Rows: [3][]api.Entry{{entry(3, 0, whole(1))}, nil, {entry(3, place, per(whole(1), h[place]))}}}
		x := indexOf(t, shape)
		e := [3]*big.Int{whole(6), whole(9), minus(6)}
		p := polyAt(t, x, three(e), fr.Of(5))
		if len(p) != 7 {
			t.Errorf("%d: %v", place, backs(p))
		}
		wantSums(t, fmt.Sprint(place), x, matricesOf(shape), e, whole(5), wholes(0, 1, 7))
		e[0] = whole(7)
		if p := polyAt(t, x, three(e), fr.Of(5)); len(p) != 8 {
			t.Errorf("%d, by another scalar: %v", place, backs(p))
		}
	}
}

// An Index by hand: its polynomials may be any, so that what they are worth on K need be
// nowhere on H; they may be longer than M, or end in 0.
func TestIndexesByHand(t *testing.T) {
	s := numbers{state: 16}
	for n := 1; n <= 16; n *= 2 {
		for m := 1; m <= 8; m *= 2 {
			for _, longest := range []int{0, 1, 2, m, m + 1, 3*m + 2} {
				x := index.Index{N: n, X: s.below(9), M: m}
				for _, p := range lists(&x) {
					*p = els(append(s.list(longest), wholes(0, 0)[:s.below(3)]...))
				}
				wantSums(t, fmt.Sprint(n, m, longest), x, valuesOf(x), s.triple(), s.big(), []*big.Int{s.big(), whole(0), whole(1)})
			}
		}
	}
}

// Some of its places are on H, some are not, several are alike.
func TestIndexesPartlyOnH(t *testing.T) {
	s := numbers{state: 17}
	for i := range 40 {
		n, m := 1<<s.below(5), 1<<s.below(5)
		h, k := elementsOf(n), elementsOf(m)
		others := []*big.Int{whole(0), s.big(), s.big(), elementsOf(2 * n)[2*n-1]}
		x := index.Index{N: n, M: m}
		for j := range 3 {
			draw := func() (values []*big.Int) {
				for range m {
					values = append(values, append(others, h...)[s.below(4+min(n, 4))])
				}
				return through(k, values)
			}
			x.Row[j], x.Col[j], x.Val[j] = els(draw()), els(draw()), els(through(k, s.list(m)))
		}
		wantSums(t, fmt.Sprint(i), x, valuesOf(x), s.triple(), s.big(), []*big.Int{s.big(), s.big(), others[1], h[0]})
	}
}

// through is the polynomial that is worth values on a domain.
func through(k, values []*big.Int) (p []*big.Int) {
	m := len(k)
	for i := range m {
		sum := whole(0)
		for j, y := range values {
			sum = plus(sum, times(y, k[(m-i)*j%m]))
		}
		p = append(p, per(sum, whole(int64(m))))
	}
	return p
}

// A good Index to which another size is written is taken as it stands.
func TestOtherSizesCount(t *testing.T) {
	s := numbers{state: 18}
	first := indexOf(t, padded(t, cube()))
	for _, n := range []int{1, 2, 4, 8, 16, 64} {
		for _, m := range []int{1, 2, 4, 8, 16, 64} {
			x := cloneIndex(first)
			x.N, x.M = n, m
			wantSums(t, fmt.Sprint(n, m), x, valuesOf(x), s.triple(), s.big(), []*big.Int{s.big()})
		}
	}
}

// X plays no part, in Sum and in Poly.
func TestXPlaysNoPart(t *testing.T) {
	s := numbers{state: 19}
	x := indexOf(t, padded(t, cube()))
	e, a, b := three(s.triple()), el(s.big()), el(s.big())
	sum, p := summed(t, x, e, a, b), polyAt(t, x, e, a)
	for _, size := range append(noSizes(), 1, 4, 16, api.MaxDomain) {
		x.X = size
		if summed(t, x, e, a, b) != sum || !slices.Equal(polyAt(t, x, e, a), p) {
			t.Errorf("X %d: it is another one", size)
		}
	}
}

// An Index of nothing is of no size.
func TestZeroIndex(t *testing.T) {
	refuseSums(t, "zero", index.Index{})
	refuseSums(t, "N alone", index.Index{N: 4})
	refuseSums(t, "M alone", index.Index{M: 4})
	x := index.Index{N: 4, M: 4}
	if sum := summed(t, x, [3]fr.El{fr.Of(1), fr.Of(1), fr.Of(1)}, fr.Of(2), fr.Of(3)); sum != (fr.El{}) {
		t.Errorf("of no polynomials: %v", back(sum))
	}
	if p := polyAt(t, x, [3]fr.El{fr.Of(1), fr.Of(1), fr.Of(1)}, fr.Of(2)); len(p) != 0 {
		t.Errorf("of no polynomials: %v", backs(p))
	}
}

// Nothing but val says whether a term counts: of val 0 row and col play no part.
func TestWhereValIsZero(t *testing.T) {
	s := numbers{state: 20}
	k := elementsOf(4)
	x := index.Index{N: 8, M: 4}
	for i := range 3 {
		x.Val[i] = els(through(k, []*big.Int{s.big(), whole(0), s.big(), whole(0)}))
		rows, cols := []*big.Int{s.big(), whole(1), s.big(), whole(1)}, []*big.Int{s.big(), whole(1), s.big(), whole(1)}
		x.Row[i], x.Col[i] = els(through(k, rows)), els(through(k, cols))
	}
	o := cloneIndex(x)
	for i := range 3 {
		rows, cols := valuesOf(x)[i].row, valuesOf(x)[i].col
		rows[1], rows[3], cols[1], cols[3] = s.big(), s.big(), s.big(), s.big()
		o.Row[i], o.Col[i] = els(through(k, rows)), els(through(k, cols))
	}
	for range 5 {
		e, a, b := three(s.triple()), el(s.big()), el(s.big())
		if summed(t, x, e, a, b) != summed(t, o, e, a, b) || !slices.Equal(polyAt(t, x, e, a), polyAt(t, o, e, a)) {
			t.Error("it is another one")
		}
	}
}

// On the greatest domains, by the sum's own words: of a few entries, and of as many as
// there may be that are of one row.
func TestGreatestSums(t *testing.T) {
	const n = api.MaxDomain
	s := numbers{state: 21}
	few := pad.Shape{N: n, M: n, Rows: [3][]api.Entry{
		entries([3]int64{0, n - 1, 3}, [3]int64{n - 1, 0, -4}), nil, entries([3]int64{n / 2, 5, 6}),
	}}
	h := elementsOf(n)
	e, a, b := s.triple(), s.big(), s.big()
	wanted := whole(0)
	for i, m := range few.Rows {
		for _, x := range m {
			col := h[x.Col]
			wanted = plus(wanted, times(e[i], per(numberOf(x.Val), u(n, col, col)), u(n, a, h[x.Row]), u(n, b, col)))
		}
	}
	x := indexOf(t, few)
	if got := summed(t, x, three(e), el(a), el(b)); got != el(wanted) {
		t.Errorf("Sum: %v, not %v", back(got), wanted)
	}
	p := polyAt(t, x, three(e), el(a))
	wantInForm(t, "Poly", p, n)
	if got := worth(backs(p), b); len(p) != n || !same(got, wanted) {
		t.Errorf("Poly: %d scalars, worth %v, not %v", len(p), got, wanted)
	}
	row := pad.Shape{N: n, M: n}
	for place := range n { // all are 1: so the polynomial has one scalar
		row.Rows[1] = append(row.Rows[1], entry(7, place, whole(1)))
	}
	wantScalars(t, "a full row", polyAt(t, indexOf(t, row), three(e), el(a)), []*big.Int{times(e[1], u(n, a, h[7]))})
}
