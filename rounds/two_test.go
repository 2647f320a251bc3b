package rounds_test

import (
	"fmt"
	"math/big"
	"slices"
	"testing"

	"marlinspike/api"
	"marlinspike/fr"
	"marlinspike/index"
	"marlinspike/pad"
	"marlinspike/rounds"
)

// P25.2

// Circuits of several sizes, assignments that satisfy them, several draws, several a and e.
func TestTwo(t *testing.T) {
	s := numbers{state: 20}
	for i, x := range sketches() {
		shape, z := s.satisfied(t, x)
		o, model := indexOf(t, shape), indexedOf(shape)
		for j := range 3 {
			p := oneOf(t, shape, z, s.draws(shape))
			wantTwo(t, fmt.Sprint(i, x, j), o, model, p, s.off(shape.N), s.triple())
		}
	}
}

// qAt is what Q is worth at a place, of what its parts are worth there.
func (x indexed) qAt(p first, a *big.Int, e [3]*big.Int, y *big.Int) *big.Int {
	left, right := worth(p.a, y), worth(p.b, y)
	rows := plus(times(e[0], left), times(e[1], right), times(e[2], left, right))
	return less(plus(worth(p.s, y), times(u(x.n, a, y), rows)), times(x.sumOf(e, a, y), worth(p.z, y)))
}

// wantTwoAt asks a second round at some places, as the chapter's words say it: Q, of what
// its parts are worth there, is H1 times v and the place times G1.
func wantTwoAt(t *testing.T, what string, q rounds.Second, model indexed, p first, a *big.Int, e [3]*big.Int, places []*big.Int) {
	t.Helper()
	n := model.n
	g, h, sum := backs(q.G), backs(q.H), backs(q.T)
	for _, y := range places {
		wantAt(t, what+", T", worth(sum, y), model.sumOf(e, a, y))
		got := plus(times(worth(h, y), v(n, y)), times(y, worth(g, y)))
		wantAt(t, what+", Q", got, model.qAt(p, a, e, y))
	}
	wantInForm(t, what+", T", q.T, n)
	wantInForm(t, what+", G1", q.G, n-1)
	wantInForm(t, what+", H1", q.H, 2*n)
}

// As many places as Q has scalars leave no doubt.
func TestTwoAtPlaces(t *testing.T) {
	s := numbers{state: 21}
	for i, x := range sketches() {
		shape, z := s.satisfied(t, x)
		d := s.draws(shape)
		o, model, p := indexOf(t, shape), indexedOf(shape), firstOf(shape, z, d)
		for j := range 2 {
			a, e := s.off(shape.N), s.triple()
			places := append(wholes(0, 1, -1), a, elementsOf(shape.N)[1])
			for len(places) < 3*shape.N+1 {
				places = append(places, s.big())
			}
			q := twoOf(t, o, oneOf(t, shape, z, d), a, e)
			wantTwoAt(t, fmt.Sprint(i, x, j), q, model, p, a, e, places)
		}
	}
}

// Of great ones at some places.
func TestTwoOfGreatCircuits(t *testing.T) {
	s := numbers{state: 22}
	for i, x := range greatSketches() {
		shape, z := s.satisfied(t, x)
		o, p, a, e := indexOf(t, shape), oneOf(t, shape, z, s.draws(shape)), s.off(shape.N), s.triple()
		model := indexed{n: shape.N, m: shape.M}
		for j := range 3 {
			model.values[j] = matrixOf(shape.N, shape.M, shape.Rows[j])
		}
		places := []*big.Int{whole(0), a, s.big(), elementsOf(shape.N)[1]}
		wantTwoAt(t, fmt.Sprint(i, x), twoOf(t, o, p, a, e), model, numbersOf(p), a, e, places)
	}
}

// a at each element of H is refused; at 0, 1, r - 1, at what is nearly of H, and at b's
// and others' places it is so, or not, as v says.
func TestPlacesOfA(t *testing.T) {
	s := numbers{state: 23}
	for i, x := range sketches() {
		shape, z := s.satisfied(t, x)
		o, model, p := indexOf(t, shape), indexedOf(shape), oneOf(t, shape, z, s.draws(shape))
		for _, a := range elementsOf(shape.N) {
			refuseTwo(t, fmt.Sprint(i, x, " at ", a), o, p, a, s.triple(), api.ErrDraw)
		}
		for _, a := range append(wholes(0, 1, -1, 2), minus(2), elementsOf(2 * shape.N)[1], elementsOf(2 * shape.N)[2*shape.N-1]) {
			what, e := fmt.Sprint(i, x, " at ", a), s.triple()
			if v(shape.N, a).Sign() == 0 {
				refuseTwo(t, what, o, p, a, e, api.ErrDraw)
				continue
			}
			wantTwo(t, what, o, model, p, a, e)
		}
	}
}

// On H of one element 1 alone is of H; -1 is not.
func TestLeastH(t *testing.T) {
	s := numbers{state: 24}
	shape := pad.Shape{N: 1, X: 1, M: 2, Rows: [3][]api.Entry{entries([3]int64{0, 0, 3}), entries([3]int64{0, 0, 5}), entries([3]int64{0, 0, 15})}}
	o, model := indexOf(t, shape), indexedOf(shape)
	p := wantOne(t, "N 1", shape, wholes(1), s.draws(shape))
	for _, a := range append(wholes(0, -1, 2), s.off(1)) {
		q := wantTwo(t, fmt.Sprint("N 1 at ", a), o, model, p, a, s.triple())
		wantInForm(t, "G1", q.G, 0)
		wantInForm(t, "H1", q.H, 2)
	}
	refuseTwo(t, "N 1 at 1", o, p, whole(1), s.triple(), api.ErrDraw)
}

// By e of three 0, of one that is not 0, of 1 and of r - 1.
func TestScalarsOfTwo(t *testing.T) {
	s := numbers{state: 25}
	edges := append(wholes(0, 1, -1), s.big())
	for i, x := range []sketch{{1, 3, 2, 1, 1, 1}, {3, 4, 2, 5, 6, 0}, {5, 6, 3, 0, 0, 0}, {6, 5, 5, 15, 16, 15}} {
		shape, z := s.satisfied(t, x)
		o, model, p := indexOf(t, shape), indexedOf(shape), oneOf(t, shape, z, s.draws(shape))
		for j := range 64 {
			e := [3]*big.Int{edges[j%4], edges[j/4%4], edges[j/16]}
			wantTwo(t, fmt.Sprint(i, x, e), o, model, p, s.off(shape.N), e)
		}
		none := [3]*big.Int{whole(0), whole(0), whole(0)}
		q := wantTwo(t, fmt.Sprint(i, x, " none"), o, model, p, s.off(shape.N), none)
		back, rest := divided(backs(p.S), vanishing(shape.N)) // then Q is S
		wantPoly(t, "T by none", q.T, nil)
		wantPoly(t, "H1 by none", q.H, back)
		wantPoly(t, "G1 by none", q.G, lower(rest))
	}
}

// broken are assignments that do not satisfy a circuit whose rows are x x = y, each by its
// own x and y: in one row, in the last one, in all.
func broken(rows int) (c api.Circuit, good []*big.Int, l [][]*big.Int) {
	c = api.Circuit{Rows: uint32(rows), Cols: uint32(2*rows + 1), Inputs: 1}
	good = wholes(1)
	for i := range rows {
		x := entry(i, 2*i+1, whole(1))
		c.A, c.B, c.C = append(c.A, x), append(c.B, x), append(c.C, entry(i, 2*i+2, whole(1)))
		good = append(good, whole(int64(i+2)), whole(int64((i+2)*(i+2))))
	}
	all := slices.Clone(good)
	for i := range rows {
		one := slices.Clone(good)
		one[2*i+2] = whole(int64(i))
		all[2*i+2] = whole(int64(i * i))
		l = append(l, one)
	}
	return c, good, append(l, all)
}

func TestNotSatisfied(t *testing.T) {
	s := numbers{state: 26}
	last := [3]*big.Int{whole(0), whole(0), whole(1)}
	for rows := 1; rows <= 9; rows++ {
		c, good, bad := broken(rows)
		shape := padded(t, c)
		o, model := indexOf(t, shape), indexedOf(shape)
		for i, z := range append(bad, good) {
			what := fmt.Sprintf("%d rows, %d of %d", rows, i, len(bad))
			p := wantOne(t, what, shape, spread(t, shape, z), s.draws(shape))
			wanted := api.ErrCheck
			if i == len(bad) {
				wanted = api.OK
			}
			for _, e := range [][3]*big.Int{last, s.triple(), s.triple()} {
				a := s.off(shape.N)
				if _, fault := rounds.Two(o, p, el(a), three(e)); fault != wanted {
					t.Errorf("%s: at %v by %v: %v", what, a, e, fault)
				}
				wantTwo(t, what, o, model, p, a, e)
			}
			// Without C and the products there is nothing to be told: A and B are as z says.
			wantTwo(t, what, o, model, p, s.off(shape.N), [3]*big.Int{s.big(), s.big(), whole(0)})
			twoOf(t, o, p, s.off(shape.N), [3]*big.Int{s.big(), s.big(), whole(0)})
		}
	}
}

// Any other assignment to circuits of several sizes: what the model tells.
func TestAnyAssignment(t *testing.T) {
	s := numbers{state: 27}
	told := map[bool]int{}
	for i, x := range sketches() {
		shape := padded(t, s.drawn(x))
		o, model := indexOf(t, shape), indexedOf(shape)
		for j := range 3 {
			p := oneOf(t, shape, s.list(shape.N), s.draws(shape))
			a, e := s.off(shape.N), s.triple()
			wantTwo(t, fmt.Sprint(i, x, j), o, model, p, a, e)
			_, is := model.secondOf(numbersOf(p), a, e)
			told[is]++
		}
	}
	if told[true] < 3 || told[false] < 30 {
		t.Errorf("too few: %v", told)
	}
}

// evened is a First whose S's scalar of 1 is such that the rest has none.
func evened(model indexed, p rounds.First, a *big.Int, e [3]*big.Int) rounds.First {
	_, rest := divided(model.q(numbersOf(p), a, e), vanishing(model.n))
	if len(rest) == 0 {
		return p
	}
	p.S = slices.Clone(p.S)
	if len(p.S) == 0 {
		p.S = []fr.El{{}}
	}
	p.S[0] = p.S[0].Sub(el(rest[0]))
	return p
}

// A First by hand, its lists of any lengths, with zeros at their ends; an Index of a shape
// and one by hand, worth anything on K.
func TestTwoByHand(t *testing.T) {
	s := numbers{state: 28}
	for i, x := range manySizes() {
		shape := s.byHand(x)
		o, model := indexOf(t, shape), indexedOf(shape)
		if i%2 == 0 {
			for _, p := range listsOfIndex(&o) {
				*p = els(append(s.list(s.below(3*x.m)), zeros(s.below(3))...))
			}
			model = indexedBy(o)
		}
		for _, longest := range []int{0, 1, 2, x.n, x.n + 1, 3 * x.n, 5*x.n + 3} {
			var p rounds.First
			for _, l := range listsOf1(&p) {
				*l = els(append(s.list(s.below(longest+1)), zeros(s.below(3))...))
			}
			a, e := s.off(x.n), s.triple()
			what := fmt.Sprint(i, x, longest)
			wantTwo(t, what, o, model, p, a, e)
			p = evened(model, p, a, e)
			if _, is := model.secondOf(numbersOf(p), a, e); !is {
				t.Errorf("%s: not evened", what)
			}
			wantTwo(t, what+", evened", o, model, p, a, e)
			p.S = els(added(backs(p.S), []*big.Int{s.big()}))
			refuseTwo(t, what+", off by a little", o, p, a, e, api.ErrCheck)
		}
	}
}

// Of a rest that is a scalar of 1 alone ErrCheck is told, of one without it, or of none, not.
func TestRests(t *testing.T) {
	none := [3]*big.Int{whole(0), whole(0), whole(0)}
	x := index.Index{N: 4, X: 2, M: 2}
	for _, l := range []struct {
		s, g, h []*big.Int
		e       api.Errno
	}{
		{nil, nil, nil, api.OK},
		{wholes(0, 0, 0), nil, nil, api.OK},
		{wholes(1), nil, nil, api.ErrCheck},
		{wholes(-1), nil, nil, api.ErrCheck},
		{wholes(5, 0, 0, 0, 1), nil, nil, api.ErrCheck},
		{wholes(-1, 0, 0, 0, 1), nil, wholes(1), api.OK},
		{wholes(-1, 0, 0, 0, 0, 0, 0, 0, 1), nil, wholes(1, 0, 0, 0, 1), api.OK},
		{wholes(-1, 0, 0, 7, 0, 0, 0, 0, 1), wholes(0, 0, 7), wholes(1, 0, 0, 0, 1), api.OK},
		{wholes(0, 1), wholes(1), nil, api.OK},
		{wholes(0, 0, 3), wholes(0, 3), nil, api.OK},
		{wholes(0, 2, 3, 0, 0, 4), wholes(6, 3), wholes(0, 4), api.OK},
		{wholes(0, 2, 3, 0, 0, -2), wholes(0, 3), wholes(0, -2), api.OK},
		{wholes(0, 2, 3, 0, 1), nil, nil, api.ErrCheck},
	} {
		p := rounds.First{S: els(l.s)}
		for _, a := range wholes(0, 2, -3) {
			if l.e != api.OK {
				refuseTwo(t, fmt.Sprint(l.s), x, p, a, none, l.e)
				continue
			}
			q := twoOf(t, x, p, a, none)
			wantPoly(t, fmt.Sprint(l.s, ", T"), q.T, nil)
			wantPoly(t, fmt.Sprint(l.s, ", G1"), q.G, l.g)
			wantPoly(t, fmt.Sprint(l.s, ", H1"), q.H, l.h)
		}
	}
}

// I and W, and X, as long as it is the size of a domain, play no part.
func TestWhatPlaysNoPartInTwo(t *testing.T) {
	s := numbers{state: 29}
	shape := padded(t, cube())
	o := indexOf(t, shape)
	p := oneOf(t, shape, spread(t, shape, wholes(1, 35, 3, 9, 27)), s.draws(shape))
	a, e := s.off(8), s.triple()
	q := twoOf(t, o, p, a, e)
	for _, x := range powersOf2() {
		o.X, p.I, p.W = x, els(s.list(s.below(9))), els(s.list(s.below(9)))
		if again := twoOf(t, o, p, a, e); !sameLists(listsOf2(&q), listsOf2(&again)) {
			t.Errorf("X %d: it is another one", x)
		}
	}
}

// A First of nothing, with any Index: Q is 0, and T is the Index's.
func TestZeroFirst(t *testing.T) {
	s := numbers{state: 30}
	for i, x := range manySizes() {
		o := indexOf(t, s.byHand(x))
		a, e := s.off(x.n), s.triple()
		q := twoOf(t, o, rounds.First{}, a, e)
		wanted, fault := o.Poly(three(e), el(a))
		if fault != api.OK || !slices.Equal(q.T, wanted) || len(q.G) > 0 || len(q.H) > 0 {
			t.Errorf("%d: %s, %s, %s", i, brief(backs(q.T)), brief(backs(q.G)), brief(backs(q.H)))
		}
	}
}

// few are the scalars of a long polynomial, of which a few are not 0.
func few(length int, places ...int) []*big.Int {
	l := zeros(length)
	for i, place := range places {
		l[place] = whole(int64(3*i + 7))
	}
	return l
}

// Lists whose product has more scalars than a domain has elements.
func TestLongLists(t *testing.T) {
	s := numbers{state: 31}
	const most = api.MaxDomain
	shape := padded(t, square())
	o, model := indexOf(t, shape), indexedOf(shape)
	for i, l := range []struct {
		first
		count int // of H1's scalars
	}{
		{first{a: few(most, 0, 5, most-1), b: few(2, 0, 1)}, most},
		{first{a: few(most-1, 1, most-2), b: few(2, 0, 1)}, most - 1},
		{first{a: few(40001, 40000), b: few(40003, 7, 40002)}, 80002},
		{first{a: few(2*most+3, 3, most, 2*most+2), b: few(5, 4)}, 2*most + 6},
		{first{z: few(most, 5, most-1), b: few(most+1, 0, most)}, most},
		{first{z: few(most+9, 5, most+8), s: few(2*most, 8, 2*most-1)}, 2*most - 4},
	} {
		p, a, e := l.first, s.off(4), s.triple()
		given := rounds.First{Z: els(p.z), A: els(p.a), B: els(p.b), S: els(p.s)}
		sum := whole(0) // on H, which is 4 times the rest's scalar of 1
		for _, y := range elementsOf(4) {
			sum = plus(sum, model.qAt(p, a, e, y))
		}
		if sum.Sign() != 0 && i < 3 {
			refuseTwo(t, fmt.Sprint(i), o, given, a, e, api.ErrCheck)
		}
		p.s = added(p.s, []*big.Int{per(less(whole(0), sum), whole(4))})
		given.S = els(p.s)
		q := twoOf(t, o, given, a, e)
		if len(q.H) != l.count || q.H[l.count-1] == (fr.El{}) {
			t.Errorf("%d: H1 has %d scalars, not %d", i, len(q.H), l.count)
		}
		g, h := backs(q.G), backs(q.H)
		for _, y := range []*big.Int{s.big(), elementsOf(8)[1]} {
			got := plus(times(worth(h, y), v(4, y)), times(y, worth(g, y)))
			wantAt(t, fmt.Sprint(i, " at ", y), got, model.qAt(p, a, e, y))
		}
	}
}

// As great as domains are: at some places.
func TestGreatestTwo(t *testing.T) {
	const n = api.MaxDomain
	s := numbers{state: 32}
	shape := pad.Shape{N: n, X: 2, M: 64, Rows: [3][]api.Entry{
		entries([3]int64{0, 5, 3}, [3]int64{n - 1, 0, 1}), entries([3]int64{0, n - 1, 4}, [3]int64{n - 1, 5, 2}), entries([3]int64{0, 77, 12}, [3]int64{n - 1, 5, 2}),
	}}
	z := zeros(n)
	for _, place := range []int{0, 5, 77, n - 1} {
		z[place] = whole(1) // 3 times 4 is 12, and 1 times 2 is 2
	}
	d := s.draws(shape)
	d[1], d[2] = whole(6), whole(7) // of 0 there would be fewer scalars
	p := oneOf(t, shape, z, d)
	o, a, e := indexOf(t, shape), s.off(n), s.triple()
	model := indexed{n: n, m: 64}
	for j := range 3 {
		model.values[j] = matrixOf(n, 64, shape.Rows[j])
	}
	q := twoOf(t, o, p, a, e)
	wantTwoAt(t, "the greatest", q, model, numbersOf(p), a, e, []*big.Int{s.big(), elementsOf(n)[1]})
	if len(q.H) != 2*n || len(q.T) != n || len(q.G) != n-1 {
		t.Errorf("%d, %d, %d", len(q.T), len(q.G), len(q.H))
	}
	z[77] = whole(2)
	refuseTwo(t, "the greatest, not satisfied", o, oneOf(t, shape, z, d), a, e, api.ErrCheck)
}
