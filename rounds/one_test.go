package rounds_test

import (
	"fmt"
	"math"
	"math/big"
	"slices"
	"testing"

	"marlinspike/api"
	"marlinspike/fr"
	"marlinspike/index"
	"marlinspike/pad"
	"marlinspike/rounds"
)

// P25.1; and the forms of all calls and answers, which are a part of the promises.
var (
	_ func(s pad.Shape) int                                                               = rounds.Draws
	_ func(s pad.Shape, z, d []fr.El) (rounds.First, api.Errno)                           = rounds.One
	_ func(x index.Index, p rounds.First, a fr.El, e [3]fr.El) (rounds.Second, api.Errno) = rounds.Two
	_ func(x index.Index, a fr.El, e [3]fr.El, b fr.El) (rounds.Third, api.Errno)         = rounds.Three
	_ struct{ Z, I, W, A, B, S []fr.El }                                                  = rounds.First{}
	_ struct{ T, G, H []fr.El }                                                           = rounds.Second{}
	_ struct{ G, H []fr.El }                                                              = rounds.Third{}
)

// 3 + 2 N, whatever the rest of the Shape.
func TestDraws(t *testing.T) {
	for _, n := range append(powersOf2(), 0, 3, 5, 7, 1000, 2*api.MaxDomain, -1, -2, -7) {
		for _, s := range []pad.Shape{{N: n}, {N: n, X: 7, M: -9, Inputs: 12, Places: []int{3}}} {
			if got := rounds.Draws(s); got != 3+2*n {
				t.Errorf("%d: %d", n, got)
			}
		}
	}
	if got := rounds.Draws(padded(t, square())); got != 11 {
		t.Errorf("x x = y: %d", got)
	}
	if got := rounds.Draws(padded(t, cube())); got != 19 {
		t.Errorf("x x x + x + 5 = y: %d", got)
	}
}

// zeros are so many.
func zeros(count int) []*big.Int {
	l := make([]*big.Int, count)
	for i := range l {
		l[i] = whole(0)
	}
	return l
}

func TestExample(t *testing.T) {
	s := padded(t, square())
	p := wantOne(t, "1 3 9 0", s, wholes(1, 3, 9, 0), zeros(11))
	wantPoly(t, "I", p.I, wholes(5, -4))
	wantAt(t, "I at 1", worth(backs(p.I), whole(1)), whole(1))
	wantAt(t, "I at -1", worth(backs(p.I), minus(1)), whole(9))
	wantInForm(t, "W", p.W, 2)
	if len(p.Z) > 4 || len(p.A) > 4 || len(p.B) > 4 || len(p.S) != 0 {
		t.Errorf("without draws: %d, %d, %d, %d", len(p.Z), len(p.A), len(p.B), len(p.S))
	}
	wantPoly(t, "B", p.B, backs(p.A)) // both matrices are x alone
	x := indexOf(t, s)
	ones := [3]*big.Int{whole(1), whole(1), whole(1)}
	twoOf(t, x, p, whole(2), ones)
	bad := wantOne(t, "1 3 8 0", s, wholes(1, 3, 8, 0), zeros(11))
	refuseTwo(t, "with y = 8", x, bad, whole(2), ones, api.ErrCheck)
}

// The example by hand, with draws. On 1, w, -1, -w, w being H's element at 1, A's rows are
// worth 3, 0, 0, 0: so its polynomial is 3 / 4 times 1 + Y + Y^2 + Y^3.
func TestByHand(t *testing.T) {
	s := padded(t, square())
	p := oneOf(t, s, wholes(1, 3, 9, 0), wholes(2, 3, 5, 7, 11, 13, 17, 19, 23, 29, 31))
	part := per(whole(3), whole(4))
	wantPoly(t, "A", p.A, []*big.Int{less(part, whole(3)), part, part, part, whole(3)})
	wantPoly(t, "B", p.B, []*big.Int{less(part, whole(5)), part, part, part, whole(5)})
	wantPoly(t, "S", p.S, wholes(-48, 7, 11, 13, 17, 19, 23, 29, 31)) // 17 and 31 stand by Y^4 and Y^8
	wantPoly(t, "I", p.I, wholes(5, -4))
	w := elementsOf(4)[1]
	for i, wanted := range []int64{1, 3, 9, 0} {
		wantAt(t, fmt.Sprint("Z at ", i), worth(backs(p.Z), raised(w, i)), whole(wanted))
	}
	// Elsewhere 2 v stands beside: on the domain of 8 elements v is -2 where it is not 0.
	plain := oneOf(t, s, wholes(1, 3, 9, 0), zeros(11))
	at := elementsOf(8)[1]
	wantAt(t, "Z elsewhere", worth(backs(p.Z), at), less(worth(backs(plain.Z), at), whole(4)))
	// Z is 1 at 1 and 9 at -1, as I is; at w it is 3, where I is 5 - 4 w and w^2 - 1 is -2.
	wantAt(t, "W at w", worth(backs(p.W), w), per(less(whole(3), less(whole(5), times(whole(4), w))), minus(2)))
	wantAt(t, "W at -w", worth(backs(p.W), less(whole(0), w)), per(less(whole(0), plus(whole(5), times(whole(4), w))), minus(2)))
}

// Circuits of several sizes, assignments that satisfy them and others, several draws.
func TestOne(t *testing.T) {
	s := numbers{state: 1}
	for i, x := range sketches() {
		shape, z := s.satisfied(t, x)
		for j := range 3 {
			wantOne(t, fmt.Sprint(i, x, j), shape, z, s.draws(shape))
			wantOne(t, fmt.Sprint(i, x, j, ", any"), shape, s.list(shape.N), s.draws(shape))
		}
	}
}

// At H's elements, and beside them, as what is promised says it: one by one.
func TestOneIsWorth(t *testing.T) {
	s := numbers{state: 2}
	for i, x := range sketches() {
		shape, z := s.satisfied(t, x)
		d := s.draws(shape)
		wantOneIsWorth(t, fmt.Sprint(i, x), shape, z, d, elementsOf(shape.N), oneOf(t, shape, z, d), &s)
	}
}

// wantOneIsWorth asks a first round what it is worth, at some of H's elements (all of X's
// are asked) and at some other places.
func wantOneIsWorth(t *testing.T, what string, s pad.Shape, z, d, some []*big.Int, p rounds.First, draw *numbers) {
	t.Helper()
	h, xs := elementsOf(s.N), elementsOf(s.X)
	l := numbersOf(p)
	for i, most := range []int{s.N + 1, s.X, s.N - s.X + 1, s.N + 1, s.N + 1, 2*s.N + 1} {
		wantInForm(t, what+", "+"ZIWABS"[i:i+1], *listsOf1(&p)[i], most)
	}
	left, right := rowsOf(s.N, s.Rows[0], z), rowsOf(s.N, s.Rows[1], z)
	for i, values := range [3][]*big.Int{z, left, right} {
		got := [3][]*big.Int{l.z, l.a, l.b}[i]
		name := what + ", " + "ZAB"[i:i+1]
		for j, place := range h {
			if slices.ContainsFunc(some, func(k *big.Int) bool { return same(k, place) }) {
				wantAt(t, fmt.Sprint(name, " at ", j), worth(got, place), values[j])
			}
		}
		// Elsewhere the Lagrange polynomials, u by the element over N, tell it.
		place := draw.off(s.N)
		wanted := times(d[i], v(s.N, place))
		for j, k := range h {
			if values[j].Sign() != 0 {
				wanted = plus(wanted, per(times(values[j], u(s.N, place, k), k), whole(int64(s.N))))
			}
		}
		wantAt(t, name+" elsewhere", worth(got, place), wanted)
	}
	for j, place := range xs {
		wantAt(t, fmt.Sprint(what, ", I at ", j), worth(l.i, place), z[j*s.N/s.X])
	}
	for range 3 {
		place := draw.big()
		wantAt(t, what+", W", plus(times(worth(l.w, place), v(s.X, place)), worth(l.i, place)), worth(l.z, place))
	}
	scalars := append(slices.Clone(l.s), zeros(2*s.N+1-len(l.s))...)
	for j, k := range d[3:] {
		wantAt(t, fmt.Sprint(what, ", S's scalar ", j+1), scalars[j+1], k)
	}
	if len(some) < len(h) {
		return
	}
	sum := whole(0)
	for _, place := range h {
		sum = plus(sum, worth(l.s, place))
	}
	wantAt(t, what+", S together", sum, whole(0))
}

// Of great circuits at some of H's elements, as all of them take long.
func TestGreatCircuits(t *testing.T) {
	s := numbers{state: 3}
	for i, x := range greatSketches() {
		shape, z := s.satisfied(t, x)
		d := s.draws(shape)
		h := elementsOf(shape.N)
		some := append(slices.Clone(h[:4]), h[shape.N/2], h[shape.N-1])
		wantOneIsWorth(t, fmt.Sprint(i, x), shape, z, d, some, oneOf(t, shape, z, d), &s)
	}
}

// Shapes as no circuit has them: every X up to N, N of 1, entries in any order and several
// at one place; Inputs and Places play no part.
func TestOneOfShapesByHand(t *testing.T) {
	s := numbers{state: 4}
	for i, x := range manySizes() {
		shape := s.byHand(x)
		z, d := s.list(x.n), s.draws(shape)
		p := wantOne(t, fmt.Sprint(i, x), shape, z, d)
		shape.Inputs, shape.Places = math.MinInt, []int{math.MaxInt, -1, 0, 0}
		o := wantOne(t, fmt.Sprint(i, x), shape, z, d)
		shape.Inputs, shape.Places = math.MaxInt, nil
		q := wantOne(t, fmt.Sprint(i, x), shape, z, d)
		if !sameLists(listsOf1(&p), listsOf1(&o)) || !sameLists(listsOf1(&p), listsOf1(&q)) {
			t.Errorf("%d: inputs or places play a part", i)
		}
	}
	for n := 1; n <= 32; n *= 2 { // more entries than K has elements: here K plays none
		shape := pad.Shape{N: n, X: 1, M: 1, Rows: [3][]api.Entry{s.loose(n, 40), s.loose(n, 30), nil}}
		wantOne(t, fmt.Sprint("more than M, ", n), shape, s.list(n), s.draws(shape))
	}
}

// M and C play no part in the first round, as long as they are what they must be.
func TestWhatPlaysNoPartInOne(t *testing.T) {
	s := numbers{state: 5}
	shape := padded(t, cube())
	z, d := s.list(shape.N), s.draws(shape)
	p := oneOf(t, shape, z, d)
	for _, m := range powersOf2() {
		shape.M = m
		shape.Rows[2] = s.loose(shape.N, s.below(9))
		if o := oneOf(t, shape, z, d); !sameLists(listsOf1(&p), listsOf1(&o)) {
			t.Errorf("M %d: it is another one", m)
		}
	}
}

// Draws of 0, of r - 1, alike, of 0 but for one of them.
func TestDrawsAtTheEdges(t *testing.T) {
	s := numbers{state: 6}
	for i, x := range sketches() {
		shape, z := s.satisfied(t, x)
		count := 3 + 2*shape.N
		for _, k := range append(wholes(0, 1, -1), s.big()) {
			d := slices.Repeat([]*big.Int{k}, count)
			what := fmt.Sprint(i, x, " all draws ", k)
			p := wantOne(t, what, shape, z, d)
			full := k.Sign() != 0
			if (len(p.Z) == shape.N+1) != full || (len(p.A) == shape.N+1) != full || (len(p.B) == shape.N+1) != full || (len(p.S) == 2*shape.N+1) != full || !full && len(p.S) > 0 {
				t.Errorf("%s: %d, %d, %d, %d", what, len(p.Z), len(p.A), len(p.B), len(p.S))
			}
		}
		if shape.N > 8 {
			continue
		}
		for j := range count {
			d := zeros(count)
			d[j] = s.big()
			p := wantOne(t, fmt.Sprint(i, x, " draw ", j), shape, z, d)
			if j >= 3 && len(p.S) != j-1 {
				t.Errorf("%d: S of the draw %d alone has %d scalars", i, j, len(p.S))
			}
			d = slices.Repeat(wholes(-1), count)
			d[j] = whole(0)
			wantOne(t, fmt.Sprint(i, x, " all but the draw ", j), shape, z, d)
		}
	}
}

// Assignments of which nothing but the first is not 0, or nothing at all, or the last.
func TestSparseAssignments(t *testing.T) {
	s := numbers{state: 7}
	for i, x := range sketches() {
		shape := padded(t, s.drawn(x))
		for _, place := range []int{0, shape.N / 2, shape.N - 1} {
			z := zeros(shape.N)
			wantOne(t, fmt.Sprint(i, x, " nothing"), shape, z, s.draws(shape))
			z[place] = whole(1)
			wantOne(t, fmt.Sprint(i, x, " at ", place), shape, z, s.draws(shape))
			p := wantOne(t, fmt.Sprint(i, x, " without draws, at ", place), shape, z, zeros(3+2*shape.N))
			if len(p.Z) != shape.N {
				t.Errorf("%d: one value is a polynomial of all scalars, not of %d", i, len(p.Z))
			}
		}
		// What is 1 everywhere is 1: one scalar, and W is nothing.
		p := wantOne(t, fmt.Sprint(i, x, " ones"), shape, slices.Repeat(wholes(1), shape.N), zeros(3+2*shape.N))
		if len(p.Z) != 1 || len(p.I) != 1 || len(p.W) != 0 {
			t.Errorf("%d: ones: %d, %d, %d", i, len(p.Z), len(p.I), len(p.W))
		}
	}
}

// Inputs that are all of H, by hand: I is Z without its draw, and W is that draw.
func TestXIsH(t *testing.T) {
	s := numbers{state: 8}
	for n := 1; n <= 16; n *= 2 {
		shape := s.byHand(sized{n, n, 4, 3, 4, 2})
		z, d := s.list(n), s.draws(shape)
		p := wantOne(t, fmt.Sprint(n), shape, z, d)
		wantPoly(t, fmt.Sprint("W ", n), p.W, inForm(d[:1]))
	}
}

// Lists of one too few, one too many, of none: each by itself, and both.
func TestLengthsOfOne(t *testing.T) {
	s := numbers{state: 9}
	for _, x := range append(sketches()[:12], sketch{cols: 0}) {
		shape := pad.Shape{N: 1, X: 1, M: 1}
		if x.cols > 0 {
			shape, _ = s.satisfied(t, x)
		}
		n := shape.N
		good, draws := els(s.list(n)), els(s.draws(shape))
		if _, e := rounds.One(shape, good, draws); e != api.OK {
			t.Errorf("%v: %v", x, e)
		}
		for _, count := range []int{0, 1, n - 1, n + 1, 2 * n, 3 + 2*n} {
			z := els(s.list(count))
			if count != n {
				refuseOne(t, fmt.Sprint(x, " z of ", count), shape, z, draws, api.ErrArg)
			}
			for _, more := range []int{0, 1, n, 2 * n, 1 + 2*n, 2 + 2*n, 4 + 2*n, 6 + 4*n} {
				d := els(s.list(more))
				refuseOne(t, fmt.Sprint(x, " d of ", more), shape, good, d, api.ErrArg)
				refuseOne(t, fmt.Sprint(x, " z of ", count, ", d of ", more), shape, z, d, api.ErrArg)
			}
		}
		refuseOne(t, fmt.Sprint(x, " none"), shape, nil, nil, api.ErrArg)
		refuseOne(t, fmt.Sprint(x, " no z"), shape, nil, draws, api.ErrArg)
		refuseOne(t, fmt.Sprint(x, " no d"), shape, good, nil, api.ErrArg)
		// Zeros at a list's end count.
		refuseOne(t, fmt.Sprint(x, " zeros"), shape, append(slices.Clone(good), fr.El{}), draws, api.ErrArg)
		refuseOne(t, fmt.Sprint(x, " zeros"), shape, good, append(slices.Clone(draws), fr.El{}), api.ErrArg)
	}
}

// As great as domains are: at some places.
func TestGreatestOne(t *testing.T) {
	const n = api.MaxDomain
	s := numbers{state: 10}
	shape := pad.Shape{N: n, X: 64, M: n, Rows: [3][]api.Entry{s.loose(n, 50), s.loose(n, 60), nil}}
	z, d := zeros(n), s.draws(shape)
	for i := range z {
		if i%97 == 0 || i%1024 == 0 {
			z[i] = s.big()
		}
	}
	h := elementsOf(n)
	p := oneOf(t, shape, z, d)
	wantOneIsWorth(t, "the greatest", shape, z, d, []*big.Int{h[0], h[1], h[97], h[n-1]}, p, &s)
	scalars := backs(p.S)
	wantAt(t, "S's scalar of 1", plus(scalars[0], scalars[n], scalars[2*n]), whole(0))
}
