package miller_test

import (
	"math/big"
	"strconv"
	"testing"

	"marlinspike/api"
	"marlinspike/curve"
	"marlinspike/fq"
	"marlinspike/fq12"
	"marlinspike/fq2"
	"marlinspike/fr"
	"marlinspike/group"
	"marlinspike/miller"
)

// pair is a point of G1's curve over numbers of twelve parts, by the document's
// own words: x and y, or else, where is is false and both are 0, the far one.
type pair struct {
	x, y fq12.El
	is   bool
}

func (a pair) neg() pair {
	if !a.is {
		return a
	}
	return pair{a.x, a.y.Neg(), true}
}

// on tells whether it lies on the curve.
func (a pair) on() bool {
	return !a.is || a.y.Mul(a.y) == a.x.Mul(a.x).Mul(a.x).Add(fq12.Of(1))
}

// slope is layer 8's.
func slope(a, b pair) fq12.El {
	up, across := b.y.Sub(a.y), b.x.Sub(a.x)
	if a == b {
		up, across = fq12.Of(3).Mul(a.x).Mul(a.x), fq12.Of(2).Mul(a.y)
	}
	inverse, e := across.Inv()
	if e != api.OK {
		return fq12.El{}
	}
	return up.Mul(inverse)
}

func (a pair) add(b pair) pair {
	switch {
	case !a.is:
		return b
	case !b.is:
		return a
	case b == a.neg():
		return pair{}
	}
	l := slope(a, b)
	x := l.Mul(l).Sub(a.x).Sub(b.x)
	return pair{x, l.Mul(a.x.Sub(x)).Sub(a.y), true}
}

// line is y(p) - y(a) - l (x(p) - x(a)).
func line(a, b, p pair) fq12.El {
	return p.y.Sub(a.y).Sub(slope(a, b).Mul(p.x.Sub(a.x)))
}

// model is Miller's function, bit by bit of X.
func model(p, q pair) fq12.El {
	if !p.is || !q.is {
		return fq12.Of(1)
	}
	t, f := q, fq12.Of(1)
	for _, bit := range strconv.FormatUint(api.X, 2)[1:] {
		f = f.Mul(f).Mul(line(t, t, p))
		t = t.add(t)
		if bit == '1' {
			f = f.Mul(line(t, q, p))
			t = t.add(q)
		}
	}
	return f
}

// w is the number of twelve parts of which all are put together.
func w() fq12.El { return fq12.Join([6]fq2.El{1: fq2.Of(1, 0)}) }

// flat is a point of G1's curve.
func flat(p group.G1) pair {
	x, y, is := group.Curve1().Affine(p)
	wide := func(n fq.El) fq12.El { return fq12.Join([6]fq2.El{{A: n}}) }
	return pair{wide(x), wide(y), is}
}

// over is what a point of G2's curve goes over into: (w^2 x, w^3 y).
func over(q group.G2) pair {
	x, y, is := group.Curve2().Affine(q)
	square := w().Mul(w())
	wide := func(n fq2.El) fq12.El { return fq12.Join([6]fq2.El{n}) }
	return pair{square.Mul(wide(x)), square.Mul(w()).Mul(wide(y)), is}
}

// told is what Over tells.
func told(q group.G2) pair {
	x, y, is := miller.Over(q)
	return pair{x, y, is}
}

// want fails if Miller's function isn't what the document's words come to.
func want(t *testing.T, what string, p group.G1, q group.G2) {
	t.Helper()
	if got, f := miller.Miller(p, q), model(flat(p), over(q)); got != f {
		t.Errorf("%s: %s, not %s", what, digits(got), digits(f))
	}
}

// digits are those of an element's twelve coordinates, by 16: those ahead of 1,
// w, .., w^5, each followed by the one ahead of it times u.
func digits(f fq12.El) string {
	text := ""
	for _, part := range f.Parts() {
		for _, n := range []fq.El{part.A, part.B} {
			b := n.Bytes()
			text += " " + new(big.Int).SetBytes(b[:]).Text(16)
		}
	}
	return text
}

// point1 is one of G1's curve, of small numbers.
func point1(t *testing.T, x, y int64) group.G1 {
	t.Helper()
	p, e := group.Curve1().Of(fq.Of(x), fq.Of(y))
	if e != api.OK {
		t.Fatalf("(%d, %d): %v", x, y, e)
	}
	return p
}

// rooted is a field's element that may have a root.
type rooted[E any] interface {
	curve.Elem[E]
	Sqrt() (E, api.Errno)
}

// lift are both points of x, if there are any.
func lift[E rooted[E]](c *curve.Curve[E], b, x E) (l []curve.Point[E]) {
	y, e := x.Mul(x).Mul(x).Add(b).Sqrt()
	if e != api.OK {
		return nil
	}
	for _, y := range []E{y, y.Neg()} {
		if p, e := c.Of(x, y); e == api.OK {
			l = append(l, p)
		}
	}
	return l
}

// outside1 are points of G1's curve that are not of the group: those of small
// orders, 2, 3 and 6, and others.
func outside1(t *testing.T) []group.G1 {
	t.Helper()
	l := []group.G1{
		point1(t, 2, 3), point1(t, 2, -3), point1(t, 0, 1), point1(t, 0, -1), point1(t, -1, 0),
		group.Curve1().Add(group.Gen1(), point1(t, 2, 3)),
	}
	for n := int64(3); len(l) < 10; n++ {
		l = append(l, lift(group.Curve1(), fq.Of(1), fq.Of(n))...)
	}
	for _, p := range l {
		if group.In1(p) {
			t.Fatalf("%v is of the group", p)
		}
	}
	return l
}

// outside2 are points of G2's curve that are not of the group.
func outside2(t *testing.T) (l []group.G2) {
	t.Helper()
	perU, _ := fq2.Of(0, 1).Inv()
	for n := int64(0); len(l) < 6; n++ {
		l = append(l, lift(group.Curve2(), perU, fq2.Of(n, 1))...)
	}
	l = append(l, group.Curve2().Add(group.Gen2(), l[0]), group.Curve2().Mul(l[2], fr.Modulus()))
	for _, q := range l {
		if group.In2(q) {
			t.Fatalf("%v is of the group", q)
		}
	}
	return l
}

// several are several values of one point: what sums come to it.
func several[E curve.Elem[E]](t *testing.T, c *curve.Curve[E], gen, p curve.Point[E]) []curve.Point[E] {
	t.Helper()
	l := []curve.Point[E]{p, c.Neg(c.Neg(p)), c.Mul(p, []uint64{1}), c.Add(c.Mul(p, []uint64{5}), c.Neg(c.Mul(p, []uint64{4})))}
	for _, n := range []uint64{1, 2, 77} {
		other := c.Mul(gen, []uint64{n})
		l = append(l, c.Add(c.Add(p, other), c.Neg(other)))
	}
	values := map[curve.Point[E]]bool{}
	for _, v := range l {
		if !c.Same(v, p) {
			t.Fatalf("%v is not %v", v, p)
		}
		values[v] = true
	}
	if _, _, is := c.Affine(p); is && len(values) < 4 {
		t.Fatalf("there are %d values of %v alone", len(values), p)
	}
	return l
}

// numbers makes numbers for tests by a rule, so that every run has the same ones.
type numbers struct{ state uint64 }

func (s *numbers) word() uint64 {
	s.state += 0x9e3779b97f4a7c15
	z := s.state
	z = (z ^ z>>30) * 0xbf58476d1ce4e5b9
	z = (z ^ z>>27) * 0x94d049bb133111eb
	return z ^ z>>31
}

// scalar is one.
func (s *numbers) scalar() fr.El { return fr.Of(int64(s.word())).Mul(fr.Of(int64(s.word()))) }

// scalars are some that are not 0: small ones, their negatives, and others.
func scalars() []fr.El {
	l, s := []fr.El{fr.Of(77), fr.Of(1 << 40)}, numbers{state: 9}
	for n := range int64(5) {
		l = append(l, fr.Of(n+1), fr.Of(-n-1), s.scalar())
	}
	return l
}
