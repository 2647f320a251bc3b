package group_test

import (
	"encoding/hex"
	"math/big"
	"slices"
	"testing"

	"marlinspike/api"
	"marlinspike/curve"
	"marlinspike/fq"
	"marlinspike/fq2"
	"marlinspike/fr"
	"marlinspike/group"
)

// atX is what a polynomial is worth at X, by the library's own numbers; its
// coefficients are told the highest first.
func atX(coefficients ...int64) *big.Int {
	sum, x := new(big.Int), new(big.Int).SetUint64(api.X)
	for _, n := range coefficients {
		sum.Mul(sum, x).Add(sum, big.NewInt(n))
	}
	return sum
}

// over is a number by n, that must go into it.
func over(t *testing.T, b *big.Int, n int64) *big.Int {
	t.Helper()
	often, rest := new(big.Int).DivMod(b, big.NewInt(n), new(big.Int))
	if rest.Sign() != 0 {
		t.Fatalf("%d does not go into %x", n, b)
	}
	return often
}

// r is X^4 - X^2 + 1.
func r() *big.Int { return atX(1, 0, -1, 0, 1) }

// bigOf is the number of words, by the library's own ones.
func bigOf(w []uint64) *big.Int {
	b := new(big.Int)
	for _, x := range slices.Backward(w) {
		b.Lsh(b, 64).Or(b, new(big.Int).SetUint64(x))
	}
	return b
}

// scalar is that of a number, by r.
func scalar(t *testing.T, b *big.Int) fr.El {
	t.Helper()
	var s api.Scalar
	new(big.Int).Mod(b, r()).FillBytes(s[:])
	k, e := fr.From(s)
	if e != api.OK {
		t.Fatalf("From(%x): %v", b, e)
	}
	return k
}

// coordinate is that of 96 hexadecimal digits.
func coordinate(t *testing.T, digits string) fq.El {
	t.Helper()
	var b [48]byte
	l, e := hex.DecodeString(digits)
	if e != nil || copy(b[:], l) != len(b) || len(l) != len(b) {
		t.Fatalf("%s: %v", digits, e)
	}
	x, wrong := fq.From(b)
	if wrong != api.OK {
		t.Fatalf("From(%s): %v", digits, wrong)
	}
	return x
}

// rooted is a field's element that may have a root, and may be great.
type rooted[E any] interface {
	curve.Elem[E]
	Sqrt() (E, api.Errno)
	Great() bool
}

// pair is a point by the document's own words: x and y, or else, where is is
// false and both are 0, the far one.
type pair[E rooted[E]] struct {
	x, y E
	is   bool
}

func (p pair[E]) neg() pair[E] {
	if !p.is {
		return p
	}
	return pair[E]{p.x, p.y.Neg(), true}
}

func (p pair[E]) add(q pair[E]) pair[E] {
	switch {
	case !p.is:
		return q
	case !q.is:
		return p
	case q == p.neg():
		return pair[E]{}
	}
	up, across := q.y.Sub(p.y), q.x.Sub(p.x)
	if p == q {
		square := p.x.Mul(p.x)
		up, across = square.Add(square).Add(square), p.y.Add(p.y)
	}
	inverse, _ := across.Inv()
	l := up.Mul(inverse)
	x := l.Mul(l).Sub(p.x).Sub(q.x)
	return pair[E]{x, l.Mul(p.x.Sub(x)).Sub(p.y), true}
}

func (p pair[E]) mul(k *big.Int) (sum pair[E]) {
	for i := k.BitLen() - 1; i >= 0; i-- {
		sum = sum.add(sum)
		if k.Bit(i) == 1 {
			sum = sum.add(p)
		}
	}
	return sum
}

// world is one of both groups: its calls, and what the document says of it.
type world[E rooted[E]] struct {
	name     string
	c        func() *curve.Curve[E]
	gen      func() curve.Point[E]
	in       func(curve.Point[E]) bool
	mul      func(curve.Point[E], fr.El) curve.Point[E]
	b        E
	cofactor *big.Int
	at       func(n int64) E // the x that are asked about
}

// checks are what is asked of both.
type checks interface {
	places(*testing.T)
	search(*testing.T)
	members(*testing.T)
	pieces(*testing.T)
	multiples(*testing.T)
	values(*testing.T)
	scalars(*testing.T)
	sums(*testing.T)
	again(*testing.T)
	nothing(*testing.T)
}

func one(t *testing.T) *world[fq.El] {
	t.Helper()
	return &world[fq.El]{
		"G1", group.Curve1, group.Gen1, group.In1, group.Mul1,
		fq.Of(1), over(t, atX(1, -2, 1), 3), fq.Of,
	}
}

func two(t *testing.T) *world[fq2.El] {
	t.Helper()
	fifth, e := fq.Of(-5).Inv() // as u^2 is -5, 1 / u is u / -5
	if e != api.OK {
		t.Fatal(e)
	}
	return &world[fq2.El]{
		"G2", group.Curve2, group.Gen2, group.In2, group.Mul2,
		fq2.El{B: fifth}, over(t, atX(1, -4, 5, 0, -4, 6, -4, -4, 13), 9),
		func(n int64) fq2.El { return fq2.Of(n, 1) },
	}
}

func both(t *testing.T, do func(checks)) {
	t.Helper()
	do(one(t))
	do(two(t))
}

// lift is the point of x whose y is not great, by what the document says.
func (w *world[E]) lift(x E) (pair[E], bool) {
	y, e := x.Mul(x).Mul(x).Add(w.b).Sqrt()
	if e != api.OK {
		return pair[E]{}, false
	}
	if y.Great() {
		y = y.Neg()
	}
	return pair[E]{x, y, true}, true
}

// found are the first points of the curve, by their x.
func (w *world[E]) found(count int) (l []pair[E]) {
	for n := int64(0); len(l) < count; n++ {
		if p, ok := w.lift(w.at(n)); ok {
			l = append(l, p)
		}
	}
	return l
}

// value is what the curve tells of a point.
func (w *world[E]) value(t *testing.T, p pair[E]) curve.Point[E] {
	t.Helper()
	if !p.is {
		return curve.Point[E]{}
	}
	v, e := w.c().Of(p.x, p.y)
	if e != api.OK {
		t.Fatalf("%s: Of(%v): %v", w.name, p, e)
	}
	return v
}

// several are several values of one point: what sums come to it.
func (w *world[E]) several(t *testing.T, p pair[E]) []curve.Point[E] {
	t.Helper()
	c, v := w.c(), w.value(t, p)
	l := []curve.Point[E]{v, c.Neg(c.Neg(v)), c.Mul(v, []uint64{1})}
	for _, q := range w.found(3) {
		other := w.value(t, q)
		l = append(l, c.Add(c.Add(v, other), c.Neg(other)))
	}
	return append(l, c.Add(c.Mul(v, []uint64{5}), c.Neg(c.Mul(v, []uint64{4}))))
}

// told is what Affine tells, the zeros beside a false among it.
func (w *world[E]) told(p curve.Point[E]) pair[E] {
	x, y, is := w.c().Affine(p)
	return pair[E]{x, y, is}
}

// want fails if a point is not the one that it must be.
func (w *world[E]) want(t *testing.T, call string, got curve.Point[E], p pair[E]) {
	t.Helper()
	if w.told(got) != p {
		t.Errorf("%s: %s is %v, not %v", w.name, call, w.told(got), p)
	}
}

// numbers makes numbers for tests by a rule, so that every run has the same ones.
type numbers struct{ state uint64 }

func (s *numbers) word() uint64 {
	s.state += 0x9e3779b97f4a7c15
	z := s.state
	z = (z ^ z>>30) * 0xbf58476d1ce4e5b9
	z = (z ^ z>>27) * 0x94d049bb133111eb
	return z ^ z>>31
}

// next is one from 0 to r - 1.
func (s *numbers) next() *big.Int {
	b := bigOf([]uint64{s.word(), s.word(), s.word(), s.word(), s.word()})
	return b.Mod(b, r())
}

// less is r less n.
func less(n int64) *big.Int { return new(big.Int).Sub(r(), big.NewInt(n)) }

// edges are numbers of scalars at which multiples may go astray.
func edges() []*big.Int {
	half := new(big.Int).Rsh(r(), 1)
	l := []*big.Int{half, new(big.Int).Add(half, big.NewInt(1)), new(big.Int).Lsh(big.NewInt(1), 252)}
	for n := range int64(8) {
		l = append(l, big.NewInt(n), less(n+1))
	}
	for _, bit := range []uint{63, 64, 65, 128, 192} {
		l = append(l, new(big.Int).Lsh(big.NewInt(1), bit), new(big.Int).Sub(new(big.Int).Lsh(big.NewInt(1), bit), big.NewInt(1)))
	}
	return l
}
