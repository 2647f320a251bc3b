package rounds_test

import (
	"fmt"
	"math/big"
	"slices"
	"testing"

	"marlinspike/api"
	"marlinspike/domain"
	"marlinspike/fr"
	"marlinspike/index"
	"marlinspike/pad"
	"marlinspike/poly"
	"marlinspike/rounds"
)

// P25.4

// domainOf is the domain of a size.
func domainOf(t *testing.T, n int) *domain.Domain {
	t.Helper()
	d, e := domain.New(n)
	if e != api.OK {
		t.Fatalf("%d: %v", n, e)
	}
	return d
}

// manyDraws are draws of several kinds.
func (s *numbers) manyDraws(x pad.Shape) (l [][]*big.Int) {
	count := 3 + 2*x.N
	for _, k := range append(wholes(0, 1, -1), s.big()) {
		l = append(l, slices.Repeat([]*big.Int{k}, count))
	}
	return append(l, s.draws(x), s.draws(x), append(zeros(3), s.list(count-3)...), append(s.list(3), zeros(count-3)...))
}

// manyScalars are e of several kinds.
func (s *numbers) manyScalars() [][3]*big.Int {
	none, k := whole(0), s.big()
	return [][3]*big.Int{s.triple(), s.triple(), {none, none, none}, {none, none, k}, {none, k, none}, {k, none, none}, {k, k, minus(1)}}
}

// wantLaws fails if of a first round that of an assignment that satisfies the circuit does
// not make what must follow: it is asked by the layers below.
func wantLaws(t *testing.T, what string, x index.Index, p rounds.First, a, b *big.Int, e [3]*big.Int) {
	t.Helper()
	h, k := domainOf(t, x.N), domainOf(t, x.M)
	q := twoOf(t, x, p, a, e)
	times := three(e)
	var scaled []fr.El
	for i, side := range [3][]fr.El{p.A, p.B, poly.Mul(p.A, p.B)} {
		scaled = poly.Add(scaled, poly.Scale(side, times[i]))
	}
	u := els(inSecond(x.N, a))
	whole := poly.Sub(poly.Add(p.S, poly.Mul(u, scaled)), poly.Mul(q.T, p.Z))
	higher, _ := poly.Shift(q.G, 1)
	if got := poly.Add(h.MulV(q.H), higher); !slices.Equal(got, whole) {
		t.Errorf("%s: Q is not H1 v and Y G1", what)
	}
	wantInForm(t, what+", T", q.T, x.N)
	wantInForm(t, what+", G1", q.G, x.N-1)
	wantInForm(t, what+", H1", q.H, 2*x.N)
	r := threeOf(t, x, a, e, b)
	wantInForm(t, what+", G2", r.G, x.M-1)
	wantInForm(t, what+", H2", r.H, 6*x.M-6)
	// f, if its scalar of 1 is T at b over M, is worth on K what it must be.
	part, _ := fr.Of(int64(x.M)).Inv()
	f, _ := poly.Shift(r.G, 1)
	f = poly.Add(f, poly.Of(poly.Eval(q.T, el(b)).Mul(part)))
	wanted := make([]fr.El, x.M)
	for i := range 3 {
		row, col, val := k.Values(x.Row[i]), k.Values(x.Col[i]), k.Values(x.Val[i])
		for j := range wanted {
			wanted[j] = wanted[j].Add(times[i].Mul(val[j]).Mul(h.U(el(a), row[j])).Mul(h.U(el(b), col[j])))
		}
	}
	if !slices.Equal(k.Values(f), wanted) {
		t.Errorf("%s: f is another one", what)
	}
}

func TestLaws(t *testing.T) {
	s := numbers{state: 70}
	for i, x := range sketches() {
		shape, z := s.satisfied(t, x)
		o := indexOf(t, shape)
		for j, d := range s.manyDraws(shape) {
			p := oneOf(t, shape, z, d)
			for l, e := range s.manyScalars() {
				if shape.N > 8 && (j+l)%4 > 0 {
					continue
				}
				wantLaws(t, fmt.Sprint(i, x, j, l), o, p, s.off(shape.N), s.off(shape.N), e)
			}
		}
	}
}

// The examples, at several a and b, which may be alike, 0 or near to H.
func TestLawsAtPlaces(t *testing.T) {
	s := numbers{state: 71}
	for i, c := range []api.Circuit{square(), cube()} {
		shape := padded(t, c)
		z := spread(t, shape, [][]*big.Int{wholes(1, 9, -3), wholes(1, 35, 3, 9, 27)}[i])
		o := indexOf(t, shape)
		places := append(wholes(0, 2, -5), elementsOf(2 * shape.N)[1], s.off(shape.N), s.off(shape.N))
		for _, a := range places {
			for _, b := range places {
				wantLaws(t, fmt.Sprint(i, a, b), o, oneOf(t, shape, z, s.draws(shape)), a, b, s.triple())
			}
		}
	}
}

// An assignment that is 1 and nothing else satisfies what it makes of C.
func TestLawsOfOneAlone(t *testing.T) {
	s := numbers{state: 72}
	for i, x := range sketches() {
		z := append(wholes(1), zeros(x.cols-1)...)
		shape := padded(t, mended(s.drawn(x), z))
		wantLaws(t, fmt.Sprint(i, x), indexOf(t, shape), oneOf(t, shape, spread(t, shape, z), s.draws(shape)), s.off(shape.N), s.off(shape.N), s.triple())
	}
}

// What is not satisfied is told ErrCheck by (0, 0, 1), at all a but fewer than N, whatever
// the draws.
func TestNearlyAllTell(t *testing.T) {
	s := numbers{state: 73}
	last := [3]*big.Int{whole(0), whole(0), whole(1)}
	for rows := 1; rows <= 4; rows++ {
		c, _, bad := broken(rows)
		shape := padded(t, c)
		o := indexOf(t, shape)
		for i, z := range bad {
			for _, d := range s.manyDraws(shape) {
				p, told := oneOf(t, shape, spread(t, shape, z), d), map[api.Errno]int{}
				for a := int64(2); a < 60; a++ {
					_, e := rounds.Two(o, p, fr.Of(a), three(last))
					told[e]++
				}
				if told[api.ErrCheck]+told[api.OK] != 58 || told[api.OK] >= shape.N {
					t.Errorf("%d rows, %d: %v", rows, i, told)
				}
			}
		}
	}
}

// And there may be N - 1 such a: what the rows are short of is chosen so that its sum is 0
// just there.
func TestFewerThanN(t *testing.T) {
	s := numbers{state: 74}
	last := [3]*big.Int{whole(0), whole(0), whole(1)}
	for n := 2; n <= 16; n *= 2 {
		var roots []*big.Int
		short := wholes(1) // 0 just at the roots, which are none of H's
		for len(roots) < n-1 {
			if root := s.off(n); worth(short, root).Sign() != 0 {
				roots = append(roots, root)
				short = multiplied(short, []*big.Int{less(whole(0), root), whole(1)})
			}
		}
		// The sum of u(a, h) times what the row at h is short of is short at a.
		c := api.Circuit{Rows: uint32(n), Cols: 1, Inputs: 1}
		for i, h := range elementsOf(n) {
			c.C = append(c.C, entry(i, 0, per(less(whole(0), worth(short, h)), u(n, h, h))))
		}
		shape := padded(t, c)
		if shape.N != n {
			t.Fatalf("N is %d, not %d", shape.N, n)
		}
		o, p := indexOf(t, shape), oneOf(t, shape, spread(t, shape, wholes(1)), s.draws(shape))
		model := indexedOf(shape)
		for _, root := range roots {
			twoOf(t, o, p, root, last)
			wantTwo(t, fmt.Sprint(n, " at a root"), o, model, p, root, last)
		}
		for range 20 {
			if a := s.off(n); worth(short, a).Sign() != 0 {
				refuseTwo(t, fmt.Sprint(n, " elsewhere"), o, p, a, last, api.ErrCheck)
			}
		}
	}
}

// T, G2 and H2 go by e: those of e and k times f's are those of both.
func TestGoesByItsScalars(t *testing.T) {
	s := numbers{state: 75}
	for i, x := range sketches() {
		shape, z := s.satisfied(t, x)
		o, p := indexOf(t, shape), oneOf(t, shape, z, s.draws(shape))
		a, b, e, f, k := s.off(shape.N), s.off(shape.N), s.triple(), s.triple(), s.big()
		var both [3]*big.Int
		for j := range both {
			both[j] = plus(e[j], times(k, f[j]))
		}
		sum := func(p, q []fr.El) []fr.El { return poly.Add(p, poly.Scale(q, el(k))) }
		one, other, all := twoOf(t, o, p, a, e), twoOf(t, o, p, a, f), twoOf(t, o, p, a, both)
		third, fourth, last := threeOf(t, o, a, e, b), threeOf(t, o, a, f, b), threeOf(t, o, a, both, b)
		if !slices.Equal(sum(one.T, other.T), all.T) || !slices.Equal(sum(third.G, fourth.G), last.G) || !slices.Equal(sum(third.H, fourth.H), last.H) {
			t.Errorf("%d: both together are others", i)
		}
	}
}

// The first round goes by z and its draws, all together.
func TestOneGoesByItsLists(t *testing.T) {
	s := numbers{state: 76}
	for i, x := range sketches() {
		shape := padded(t, s.drawn(x))
		z, o, d, f, k := els(s.list(shape.N)), els(s.list(shape.N)), els(s.draws(shape)), els(s.draws(shape)), el(s.big())
		sum := func(p, q []fr.El) []fr.El {
			l := slices.Clone(p)
			for i := range l {
				l[i] = p[i].Add(k.Mul(q[i]))
			}
			return l
		}
		one, _ := rounds.One(shape, z, d)
		other, _ := rounds.One(shape, o, f)
		both, e := rounds.One(shape, sum(z, o), sum(d, f))
		if e != api.OK {
			t.Fatal(e)
		}
		for j, p := range listsOf1(&both) {
			if !slices.Equal(*p, poly.Add(*listsOf1(&one)[j], poly.Scale(*listsOf1(&other)[j], k))) {
				t.Errorf("%d: the list %d of both is another one", i, j)
			}
		}
	}
}

// What a verifier asks at two places (chapter 26): of what the rounds' polynomials are worth
// there both equations hold, whatever the places.
func TestBothEquations(t *testing.T) {
	s := numbers{state: 77}
	for i, x := range sketches() {
		shape, z := s.satisfied(t, x)
		o, p := indexOf(t, shape), oneOf(t, shape, z, s.draws(shape))
		h, xs, k := domainOf(t, shape.N), domainOf(t, shape.X), domainOf(t, shape.M)
		e := three(s.triple())
		a, b, g := el(s.off(shape.N)), el(s.off(shape.N)), el(s.big())
		q, _ := rounds.Two(o, p, a, e)
		r, fault := rounds.Three(o, a, e, b)
		if fault != api.OK {
			t.Fatal(fault)
		}
		left, right := poly.Eval(p.A, b), poly.Eval(p.B, b)
		all := poly.Eval(p.W, b).Mul(xs.V(b)).Add(poly.Eval(p.I, b))
		rows := e[0].Mul(left).Add(e[1].Mul(right)).Add(e[2].Mul(left).Mul(right))
		first := poly.Eval(p.S, b).Add(h.U(a, b).Mul(rows)).Sub(poly.Eval(q.T, b).Mul(all))
		if first != poly.Eval(q.H, b).Mul(h.V(b)).Add(b.Mul(poly.Eval(q.G, b))) {
			t.Errorf("%d: the first equation does not hold", i)
		}
		part, _ := fr.Of(int64(shape.M)).Inv()
		f := g.Mul(poly.Eval(r.G, g)).Add(poly.Eval(q.T, b).Mul(part))
		var under, val [3]fr.El
		for j := range 3 {
			under[j] = a.Sub(poly.Eval(o.Row[j], g)).Mul(b.Sub(poly.Eval(o.Col[j], g)))
			val[j] = h.V(a).Mul(h.V(b)).Mul(e[j]).Mul(poly.Eval(o.Val[j], g))
		}
		second := val[0].Mul(under[1]).Mul(under[2]).Add(val[1].Mul(under[0]).Mul(under[2])).Add(val[2].Mul(under[0]).Mul(under[1]))
		if second.Sub(under[0].Mul(under[1]).Mul(under[2]).Mul(f)) != poly.Eval(r.H, g).Mul(k.V(g)) {
			t.Errorf("%d: the second equation does not hold", i)
		}
	}
}
