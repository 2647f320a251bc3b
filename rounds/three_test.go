package rounds_test

import (
	"fmt"
	"math/big"
	"slices"
	"testing"

	"marlinspike/api"
	"marlinspike/index"
	"marlinspike/pad"
	"marlinspike/rounds"
)

// P25.3

// Circuits of several sizes, several a and b, several e.
func TestThree(t *testing.T) {
	s := numbers{state: 40}
	for i, x := range sketches() {
		shape := padded(t, s.drawn(x))
		o, model := indexOf(t, shape), indexedOf(shape)
		for j := range 3 {
			wantThree(t, fmt.Sprint(i, x, j), o, model, s.off(shape.N), s.triple(), s.off(shape.N))
		}
	}
}

// wantThreeAt asks a third round at some places, as the chapter's words say it: f, of
// which G2 has all but the scalar of 1, and that is T at b over M, at K's elements; and
// H2 times vK, and f times all denominators, against what is put together of the others'.
func wantThreeAt(t *testing.T, what string, p rounds.Third, model indexed, a *big.Int, e [3]*big.Int, b *big.Int, some []int, places []*big.Int) {
	t.Helper()
	n, m, k := model.n, model.m, elementsOf(model.m)
	f := append([]*big.Int{per(model.sumOf(e, a, b), whole(int64(m)))}, backs(p.G)...)
	for _, j := range some {
		wantAt(t, fmt.Sprint(what, ", f at ", j), worth(f, k[j]), model.fraction(j, a, b, e))
	}
	h := backs(p.H)
	for _, y := range places {
		var under, val [3]*big.Int
		for i, l := range model.polys {
			under[i] = times(less(a, worth(l.row, y)), less(b, worth(l.col, y)))
			val[i] = times(v(n, a), v(n, b), e[i], worth(l.val, y))
		}
		sum := plus(times(val[0], under[1], under[2]), times(val[1], under[0], under[2]), times(val[2], under[0], under[1]))
		got := plus(times(worth(h, y), v(m, y)), times(worth(f, y), under[0], under[1], under[2]))
		wantAt(t, what+", H2", got, sum)
	}
	wantInForm(t, what+", G2", p.G, m-1)
	wantInForm(t, what+", H2", p.H, max(0, 6*m-6))
}

// upTo are the numbers below n.
func upTo(n int) (l []int) {
	for i := range n {
		l = append(l, i)
	}
	return l
}

// All of K, and as many places as both sides have scalars, leave no doubt.
func TestThreeAtPlaces(t *testing.T) {
	s := numbers{state: 41}
	for i, x := range sketches() {
		shape := padded(t, s.drawn(x))
		o, model := indexOf(t, shape), indexedOf(shape)
		a, e, b := s.off(shape.N), s.triple(), s.off(shape.N)
		places := append(wholes(0, 1, -1), a, b)
		for len(places) < 7*shape.M {
			places = append(places, s.big())
		}
		wantThreeAt(t, fmt.Sprint(i, x), threeOf(t, o, a, e, b), model, a, e, b, upTo(shape.M), places)
	}
}

// withPolys is the model of an Index by its own polynomials, and by the values that those
// of its shape are worth, which are too many to be worked out anew.
func withPolys(s pad.Shape, x index.Index) indexed {
	model := indexed{n: s.N, m: s.M}
	for i := range 3 {
		model.values[i] = matrixOf(s.N, s.M, s.Rows[i])
		model.polys[i] = matrix{backs(x.Row[i]), backs(x.Col[i]), backs(x.Val[i])}
	}
	return model
}

// Of great ones at some places.
func TestThreeOfGreatCircuits(t *testing.T) {
	s := numbers{state: 42}
	for i, x := range greatSketches() {
		shape := padded(t, s.drawn(x))
		o, a, e, b := indexOf(t, shape), s.off(shape.N), s.triple(), s.off(shape.N)
		some := []int{0, 1, 2, x.c - 1, shape.M / 2, shape.M - 1}
		wantThreeAt(t, fmt.Sprint(i, x), threeOf(t, o, a, e, b), withPolys(shape, o), a, e, b, some, []*big.Int{s.big(), whole(0), elementsOf(2 * shape.M)[1]})
	}
}

// a and b at each element of H are refused, each with the other one good, both of H, and
// both the same one; at 0, 1, r - 1 and near H it is as v says.
func TestPlacesOfAAndB(t *testing.T) {
	s := numbers{state: 43}
	for i, x := range sketches() {
		shape := padded(t, s.drawn(x))
		o, model := indexOf(t, shape), indexedOf(shape)
		h, good := elementsOf(shape.N), s.off(shape.N)
		for j, k := range h {
			what, e := fmt.Sprint(i, x, " at ", j), s.triple()
			refuseThree(t, what+", a", o, k, e, good, api.ErrDraw)
			refuseThree(t, what+", b", o, good, e, k, api.ErrDraw)
			refuseThree(t, what+", both", o, k, e, k, api.ErrDraw)
			refuseThree(t, what+", both, but others", o, k, e, h[0], api.ErrDraw)
		}
		if shape.M > 16 {
			continue
		}
		edges := append(wholes(0, 1, -1, 2), minus(2), elementsOf(2 * shape.N)[1], good)
		for _, a := range edges {
			for _, b := range edges {
				what, e := fmt.Sprint(i, x, " at ", a, b), s.triple()
				if v(shape.N, a).Sign() == 0 || v(shape.N, b).Sign() == 0 {
					refuseThree(t, what, o, a, e, b, api.ErrDraw)
					continue
				}
				wantThree(t, what, o, model, a, e, b)
			}
		}
	}
}

// b may be a: both play other parts.
func TestAlike(t *testing.T) {
	s := numbers{state: 44}
	for i, x := range sketches() {
		shape := padded(t, s.drawn(x))
		o, model := indexOf(t, shape), indexedOf(shape)
		a, e := s.off(shape.N), s.triple()
		wantThree(t, fmt.Sprint(i, x), o, model, a, e, a)
	}
}

// By e of three 0, of one that is not 0, of 1 and of r - 1.
func TestScalarsOfThree(t *testing.T) {
	s := numbers{state: 45}
	edges := append(wholes(0, 1, -1), s.big())
	for i, x := range []sketch{{1, 3, 2, 1, 1, 1}, {3, 4, 2, 5, 6, 0}, {5, 6, 3, 0, 0, 0}} {
		shape := padded(t, s.drawn(x))
		o, model := indexOf(t, shape), indexedOf(shape)
		for j := range 64 {
			e := [3]*big.Int{edges[j%4], edges[j/4%4], edges[j/16]}
			p := wantThree(t, fmt.Sprint(i, x, e), o, model, s.off(shape.N), e, s.off(shape.N))
			if j == 0 && (len(p.G) > 0 || len(p.H) > 0) {
				t.Errorf("%v: by three 0 there is something", x)
			}
		}
	}
}

// K of one element, by hand: f, the denominators and all else are scalars, so that what is
// left is nothing.
func TestLeastK(t *testing.T) {
	s := numbers{state: 46}
	for _, n := range []int{1, 2, 8, 64} {
		shape := s.byHand(sized{n, 1, 1, 1, 1, 1})
		p := wantThree(t, fmt.Sprint(n), indexOf(t, shape), indexedOf(shape), s.off(n), s.triple(), s.off(n))
		if len(p.G) > 0 || len(p.H) > 0 {
			t.Errorf("%d: %s, %s", n, brief(backs(p.G)), brief(backs(p.H)))
		}
	}
}

// Matrices without entries, one, two or all three: f and H2 are those of the others.
func TestWithoutEntries(t *testing.T) {
	s := numbers{state: 47}
	for i := range 8 {
		shape := pad.Shape{N: 4, X: 2, M: 4}
		for j := range 3 {
			if i>>j&1 == 1 {
				shape.Rows[j] = s.loose(4, 3)
			}
		}
		a, b := s.off(4), s.off(4)
		p := wantThree(t, fmt.Sprint(i), indexOf(t, shape), indexedOf(shape), a, s.triple(), b)
		if i == 0 && (len(p.G) > 0 || len(p.H) > 0) {
			t.Error("without entries there is something")
		}
	}
}

// Shapes as no circuit has them, and Indexes by hand: their lists may be of any length,
// end in 0, and be worth anything on K, so long as a and b are not among that.
func TestThreeByHand(t *testing.T) {
	s := numbers{state: 48}
	for i, x := range manySizes() {
		shape := s.byHand(x)
		o := indexOf(t, shape)
		wantThree(t, fmt.Sprint(i, x), o, indexedOf(shape), s.off(x.n), s.triple(), s.off(x.n))
		for _, longest := range []int{0, 1, x.m, x.m + 1, 3*x.m + 2} {
			for _, p := range listsOfIndex(&o) {
				*p = els(append(s.list(s.below(longest+1)), zeros(s.below(3))...))
			}
			model := indexedBy(o)
			a, b := s.off(x.n), s.off(x.n)
			if model.hits(a, b) {
				refuseThree(t, fmt.Sprint(i, x, longest), o, a, s.triple(), b, api.ErrDraw)
				continue
			}
			wantThree(t, fmt.Sprint(i, x, longest), o, model, a, s.triple(), b)
		}
	}
}

// hits tells whether a or b is what row or col is worth on K, so that one is divided by 0.
func (x indexed) hits(a, b *big.Int) bool {
	is := func(k *big.Int) func(*big.Int) bool { return func(o *big.Int) bool { return same(k, o) } }
	for _, l := range x.values {
		if slices.ContainsFunc(l.row, is(a)) || slices.ContainsFunc(l.col, is(b)) {
			return true
		}
	}
	return false
}

// Of an Index by hand a may be what row is worth somewhere on K, and b what col is: then
// there is no f. In each matrix, at each element of K, whatever val and e are there.
func TestDividedByZero(t *testing.T) {
	s := numbers{state: 49}
	k := elementsOf(4)
	for i := range 24 {
		x := index.Index{N: 8, X: 2, M: 4}
		for _, p := range listsOfIndex(&x) {
			*p = els(through(k, []*big.Int{minus(5), minus(6), minus(7), minus(8)}))
		}
		a, b := s.off(8), s.off(8)
		values := []*big.Int{minus(5), minus(6), minus(7), minus(8)}
		if i < 12 {
			values[i%4] = a
			x.Row[i/4] = els(through(k, values))
		} else {
			values[i%4] = b
			x.Col[i/4-3] = els(through(k, values))
		}
		refuseThree(t, fmt.Sprint(i), x, a, s.triple(), b, api.ErrDraw)
		refuseThree(t, fmt.Sprint(i, " by none"), x, a, [3]*big.Int{whole(0), whole(0), whole(0)}, b, api.ErrDraw)
		if o := indexedBy(x); !o.hits(b, a) { // the other way round they play no part
			wantThree(t, fmt.Sprint(i, " the other way round"), x, o, b, s.triple(), a)
		}
	}
	x := index.Index{N: 4, X: 2, M: 2} // row and col are 0 everywhere
	refuseThree(t, "a is 0", x, whole(0), s.triple(), whole(2), api.ErrDraw)
	refuseThree(t, "b is 0", x, whole(2), s.triple(), whole(0), api.ErrDraw)
	wantThree(t, "neither is 0", x, indexedBy(x), whole(2), s.triple(), whole(3))
}

// X, as long as it is the size of a domain, plays no part.
func TestXPlaysNoPartInThree(t *testing.T) {
	s := numbers{state: 50}
	x := indexOf(t, padded(t, cube()))
	a, e, b := s.off(8), s.triple(), s.off(8)
	p := threeOf(t, x, a, e, b)
	for _, size := range powersOf2() {
		x.X = size
		if o := threeOf(t, x, a, e, b); !sameLists(listsOf3(&p), listsOf3(&o)) {
			t.Errorf("X %d: it is another one", size)
		}
	}
}

// Another N or M that is written to a good Index is taken as it stands.
func TestOtherSizesCount(t *testing.T) {
	s := numbers{state: 51}
	first := indexOf(t, padded(t, cube()))
	for _, n := range []int{1, 2, 4, 8, 16, 64} {
		for _, m := range []int{1, 2, 4, 8, 16} {
			x := first
			x.N, x.M = n, m
			a, b := s.off(64), s.off(64)
			wantThree(t, fmt.Sprint(n, m), x, indexedBy(x), a, s.triple(), b)
		}
	}
}

// As great as domains are, its lists being full: at some places.
func TestGreatestThree(t *testing.T) {
	const n = api.MaxDomain
	s := numbers{state: 52}
	shape := pad.Shape{N: n, X: 1, M: n}
	for i := range shape.Rows {
		shape.Rows[i] = s.loose(n, 40+i)
	}
	x, a, e, b := indexOf(t, shape), s.off(n), s.triple(), s.off(n)
	p := threeOf(t, x, a, e, b)
	wantThreeAt(t, "the greatest", p, withPolys(shape, x), a, e, b, []int{1, 40, n - 1}, []*big.Int{s.big()})
	if len(p.G) != n-1 || len(p.H) != 6*n-6 {
		t.Errorf("%d, %d", len(p.G), len(p.H))
	}
}

// On the greatest H, with the least K, and the other way round.
func TestUnlikeSizes(t *testing.T) {
	s := numbers{state: 53}
	for _, x := range []sized{{api.MaxDomain, 1, 1, 1, 0, 1}, {api.MaxDomain, 4, 4, 3, 4, 2}, {1, 1, 64, 64, 50, 60}, {2, 2, 32, 32, 5, 6}} {
		shape := s.byHand(x)
		wantThree(t, fmt.Sprint(x), indexOf(t, shape), indexedOf(shape), s.off(x.n), s.triple(), s.off(x.n))
	}
}
