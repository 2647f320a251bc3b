package pairing_test

import (
	"fmt"
	"math/big"
	"sync"
	"testing"

	"marlinspike/api"
	"marlinspike/curve"
	"marlinspike/fq"
	"marlinspike/fq12"
	"marlinspike/fq2"
	"marlinspike/fr"
	"marlinspike/group"
	"marlinspike/pairing"
)

// atX is what a polynomial is worth at X, by the library's own numbers; its
// coefficients are told the highest first.
func atX(coefficients ...int64) *big.Int {
	sum, x := new(big.Int), new(big.Int).SetUint64(api.X)
	for _, n := range coefficients {
		sum.Mul(sum, x).Add(sum, big.NewInt(n))
	}
	return sum
}

// r is X^4 - X^2 + 1.
func r() *big.Int { return atX(1, 0, -1, 0, 1) }

// q is (X - 1)^2 r / 3 + X.
func q() *big.Int {
	n := new(big.Int).Mul(atX(1, -2, 1), r())
	return n.Div(n, big.NewInt(3)).Add(n, atX(1, 0))
}

// exponent is (q^12 - 1) / r.
func exponent() *big.Int {
	n := new(big.Int).Exp(q(), big.NewInt(12), nil)
	n.Sub(n, big.NewInt(1))
	often, rest := n.DivMod(n, r(), new(big.Int))
	if rest.Sign() != 0 {
		panic("r does not go into q^12 - 1")
	}
	return often
}

// power is f's, by products alone.
func power(f fq12.El, e *big.Int) fq12.El {
	p := fq12.Of(1)
	for i := e.BitLen() - 1; i >= 0; i-- {
		p = p.Mul(p)
		if e.Bit(i) == 1 {
			p = p.Mul(f)
		}
	}
	return p
}

// wantLast fails if the last power of one of a list isn't that power. All are
// asked about at once, as such a power takes long.
func wantLast(t *testing.T, what string, l []fq12.El) {
	t.Helper()
	var all sync.WaitGroup
	for i, f := range l {
		all.Go(func() {
			if got, want := pairing.Last(f), power(f, exponent()); got != want {
				t.Errorf("%s, %d: of %s it is %s, not %s", what, i, digits(f), digits(got), digits(want))
			}
		})
	}
	all.Wait()
}

// digits are those of an element's twelve coordinates, by 16: those ahead of 1,
// w, .., w^5, each followed by the one ahead of it times u.
func digits(f fq12.El) string {
	text := ""
	for _, part := range f.Parts() {
		for _, n := range []fq.El{part.A, part.B} {
			b := n.Bytes()
			text += " " + new(big.Int).SetBytes(b[:]).Text(16)
		}
	}
	return text
}

// whole is of whole numbers: those ahead of 1, w, .., w^11, as far as they are
// there.
func whole(l ...int64) fq12.El {
	var powers [12]int64
	copy(powers[:], l)
	var parts [6]fq2.El
	for i := range parts {
		parts[i] = fq2.Of(powers[i], powers[i+6]) // as w^6 is u
	}
	return fq12.Join(parts)
}

// one is the number of twelve parts.
func one() fq12.El { return fq12.Of(1) }

// numbers makes numbers for tests by a rule, so that every run has the same ones.
type numbers struct{ state uint64 }

func (s *numbers) word() uint64 {
	s.state += 0x9e3779b97f4a7c15
	z := s.state
	z = (z ^ z>>30) * 0xbf58476d1ce4e5b9
	z = (z ^ z>>27) * 0x94d049bb133111eb
	return z ^ z>>31
}

// scalar is one.
func (s *numbers) scalar() fr.El { return fr.Of(int64(s.word())).Mul(fr.Of(int64(s.word()))) }

// coordinate is one, as great as q.
func (s *numbers) coordinate() fq.El {
	n := fq.Of(1)
	for range 7 {
		n = n.Mul(fq.Of(int64(s.word()))).Add(fq.Of(int64(s.word())))
	}
	return n
}

// shaped has, of twelve coordinates, those whose bits stand in shape, and 0 in
// place of the others: those ahead of 1, w, .., w^11.
func (s *numbers) shaped(shape int) fq12.El {
	var parts [6]fq2.El
	for i := range parts {
		if shape>>i&1 == 1 {
			parts[i].A = s.coordinate()
		}
		if shape>>i&64 == 64 {
			parts[i].B = s.coordinate()
		}
	}
	return fq12.Join(parts)
}

// full are numbers of twelve parts, none of which is 0.
func (s *numbers) full(count int) (l []fq12.El) {
	for range count {
		l = append(l, s.shaped(1<<12-1))
	}
	return l
}

// scalars are some that are not 0: small ones, their negatives, and others.
func scalars() []fr.El {
	l, s := []fr.El{fr.Of(77), fr.Of(1 << 40)}, numbers{state: 9}
	for n := range int64(5) {
		l = append(l, fr.Of(n+1), fr.Of(-n-1), s.scalar())
	}
	return l
}

// The generators: to find them takes long.
var gen1, gen2 = group.Gen1(), group.Gen2()

// times1, times2 are their multiples.
func times1(n int64) group.G1 { return group.Mul1(gen1, fr.Of(n)) }
func times2(n int64) group.G2 { return group.Mul2(gen2, fr.Of(n)) }

// point1 is one of G1's curve, of small numbers.
func point1(t *testing.T, x, y int64) group.G1 {
	t.Helper()
	p, e := group.Curve1().Of(fq.Of(x), fq.Of(y))
	if e != api.OK {
		t.Fatalf("(%d, %d): %v", x, y, e)
	}
	return p
}

// outside1 are points of G1's curve that are not of the group: those of small
// orders, 2, 3 and 6, one of the generator and such a one together, and others.
func outside1(t *testing.T) []group.G1 {
	t.Helper()
	l := []group.G1{
		point1(t, 2, 3), point1(t, 2, -3), point1(t, 0, 1), point1(t, 0, -1), point1(t, -1, 0),
		group.Curve1().Add(gen1, point1(t, 2, 3)),
	}
	for n := int64(3); len(l) < 8; n++ {
		x := fq.Of(n)
		if y, e := x.Mul(x).Mul(x).Add(fq.Of(1)).Sqrt(); e == api.OK {
			p, _ := group.Curve1().Of(x, y)
			l = append(l, p)
		}
	}
	for _, p := range l {
		if group.In1(p) {
			t.Fatalf("%v is of the group", p)
		}
	}
	return l
}

// outside2 are points of G2's curve that are not of the group: of x = u, 1 + u,
// .. those whose y is not great, the generator and one of them together, and one
// that is of no r points.
func outside2(t *testing.T) (l []group.G2) {
	t.Helper()
	perU, _ := fq2.Of(0, 1).Inv()
	for n := int64(0); len(l) < 4; n++ {
		x := fq2.Of(n, 1)
		if y, e := x.Mul(x).Mul(x).Add(perU).Sqrt(); e == api.OK {
			q, _ := group.Curve2().Of(x, y)
			l = append(l, q)
		}
	}
	l = append(l, group.Curve2().Add(gen2, l[0]), group.Curve2().Mul(l[2], fr.Modulus()))
	for _, q := range l {
		if group.In2(q) {
			t.Fatalf("%v is of the group", q)
		}
	}
	return l
}

// far1, far2 are values of the far one: the zero Point, and what comes to it.
func far1(t *testing.T) []group.G1 {
	c, g := group.Curve1(), gen1
	return []group.G1{{}, c.Add(g, c.Neg(g)), c.Mul(g, fr.Modulus()), c.Mul(point1(t, 2, 3), []uint64{6}), c.Neg(group.G1{}), {X: fq.Of(1), Y: fq.Of(1)}}
}

func far2() []group.G2 {
	c, h := group.Curve2(), gen2
	return []group.G2{{}, c.Add(h, c.Neg(h)), c.Mul(h, fr.Modulus()), c.Neg(group.G2{}), {X: fq2.Of(1, 0), Y: fq2.Of(1, 0)}}
}

// several are several values of one point: what sums come to it.
func several[E curve.Elem[E]](t *testing.T, c *curve.Curve[E], gen, p curve.Point[E]) []curve.Point[E] {
	t.Helper()
	l := []curve.Point[E]{p, c.Neg(c.Neg(p)), c.Mul(p, []uint64{1}), c.Add(c.Mul(p, []uint64{5}), c.Neg(c.Mul(p, []uint64{4})))}
	for _, n := range []uint64{1, 2, 77} {
		other := c.Mul(gen, []uint64{n})
		l = append(l, c.Add(c.Add(p, other), c.Neg(other)))
	}
	values := map[curve.Point[E]]bool{}
	for _, v := range l {
		if !c.Same(v, p) {
			t.Fatalf("%v is not %v", v, p)
		}
		values[v] = true
	}
	if len(values) < 4 {
		t.Fatalf("there are %d values of %v alone", len(values), p)
	}
	return l
}

// byHand is the product of the pairings of the points at the same places.
func byHand(ps []group.G1, qs []group.G2) fq12.El {
	all := one()
	for i := range ps {
		all = all.Mul(pairing.Pair(ps[i], qs[i]))
	}
	return all
}

// wantProduct fails if Product and IsOne of two lists tell anything but f, and
// whether it is 1.
func wantProduct(t *testing.T, what string, ps []group.G1, qs []group.G2, f fq12.El) {
	t.Helper()
	if got, e := pairing.Product(ps, qs); got != f || e != api.OK {
		t.Errorf("%s: Product is %s, %v, not %s", what, digits(got), e, digits(f))
	}
	if is, e := pairing.IsOne(ps, qs); is != (f == one()) || e != api.OK {
		t.Errorf("%s: IsOne is %v, %v, where the product is %s", what, is, e, digits(f))
	}
}

// refused fails if two lists of unlike lengths are not.
func refused(t *testing.T, ps []group.G1, qs []group.G2) {
	t.Helper()
	what := fmt.Sprint(len(ps), " and ", len(qs), " points")
	if f, e := pairing.Product(ps, qs); f != (fq12.El{}) || e != api.ErrArg {
		t.Errorf("%s: Product is %s, %v", what, digits(f), e)
	}
	if is, e := pairing.IsOne(ps, qs); is || e != api.ErrArg {
		t.Errorf("%s: IsOne is %v, %v", what, is, e)
	}
}
