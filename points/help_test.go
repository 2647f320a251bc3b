package points_test

import (
	"bytes"
	"encoding/hex"
	"math/big"
	"slices"
	"testing"

	"marlinspike/api"
	"marlinspike/curve"
	"marlinspike/fq"
	"marlinspike/fq2"
	"marlinspike/fr"
	"marlinspike/group"
	"marlinspike/points"
)

// q is (X - 1)^2 (X^4 - X^2 + 1) / 3 + X, by the library's own numbers.
func q() *big.Int {
	x := new(big.Int).SetUint64(api.X)
	square := new(big.Int).Mul(x, x)
	r := new(big.Int).Mul(square, square)
	r.Sub(r, square).Add(r, big.NewInt(1))
	less := new(big.Int).Sub(x, big.NewInt(1))
	n := new(big.Int).Mul(less, less)
	return n.Mul(n, r).Div(n, big.NewInt(3)).Add(n, x)
}

// offQ is q and some more, or less.
func offQ(more int64) *big.Int { return new(big.Int).Add(q(), big.NewInt(more)) }

// power is 2^n.
func power(n uint) *big.Int { return new(big.Int).Lsh(big.NewInt(1), n) }

// byQ is the number from 0 to q - 1.
func byQ(b *big.Int) *big.Int { return new(big.Int).Mod(b, q()) }

// great tells whether a number is above (q - 1) / 2.
func great(b *big.Int) bool { return b.Cmp(new(big.Int).Rsh(q(), 1)) > 0 }

// num is a + b u by q, where u^2 is -5, by the library's own numbers. Of G1
// b is 0.
type num struct{ a, b *big.Int }

// small is that of small numbers.
func small(a, b int64) num { return num{byQ(big.NewInt(a)), byQ(big.NewInt(b))} }

func (x num) same(y num) bool { return x.a.Cmp(y.a) == 0 && x.b.Cmp(y.b) == 0 }

func (x num) zero() bool { return x.a.Sign() == 0 && x.b.Sign() == 0 }

func (x num) great() bool {
	if x.b.Sign() == 0 {
		return great(x.a)
	}
	return great(x.b)
}

func (x num) add(y num) num {
	return num{byQ(new(big.Int).Add(x.a, y.a)), byQ(new(big.Int).Add(x.b, y.b))}
}

func (x num) neg() num { return num{byQ(new(big.Int).Neg(x.a)), byQ(new(big.Int).Neg(x.b))} }

func (x num) mul(y num) num {
	a, bb := new(big.Int).Mul(x.a, y.a), new(big.Int).Mul(x.b, y.b)
	ab, ba := new(big.Int).Mul(x.a, y.b), new(big.Int).Mul(x.b, y.a)
	return num{byQ(a.Sub(a, bb.Mul(bb, big.NewInt(5)))), byQ(ab.Add(ab, ba))}
}

// norm is (a + b u)(a - b u).
func (x num) norm() *big.Int { return x.mul(num{x.a, byQ(new(big.Int).Neg(x.b))}).a }

// plain is a root of a number of which b is 0, where it is asked for one of
// which b is 0 too.
func plain(x num) (num, bool) {
	root := new(big.Int).ModSqrt(x.a, q())
	if root == nil {
		return num{}, false
	}
	return num{root, new(big.Int)}, true
}

// rootOf is a root, if there is one: whether there is tells the norm.
func rootOf(x num) (num, bool) {
	n := new(big.Int).ModSqrt(x.norm(), q())
	if n == nil {
		return num{}, false
	}
	for _, n := range []*big.Int{n, byQ(new(big.Int).Neg(n))} { // c^2 is (a + n) / 2, and 2 c d is b
		half := new(big.Int).ModInverse(big.NewInt(2), q())
		c := new(big.Int).ModSqrt(byQ(half.Mul(half, new(big.Int).Add(x.a, n))), q())
		if c == nil || c.Sign() == 0 {
			continue
		}
		d := new(big.Int).ModInverse(new(big.Int).Add(c, c), q())
		if root := (num{c, byQ(d.Mul(d, x.b))}); root.mul(root).same(x) {
			return root, true
		}
	}
	panic("the model is at its end")
}

// spot is a point by the document's own words: x and y, or else, where is is
// false, the far one.
type spot struct {
	x, y num
	is   bool
}

func (s spot) neg() spot {
	if !s.is {
		return s
	}
	return spot{s.x, s.y.neg(), true}
}

func (s spot) same(o spot) bool {
	return s.is == o.is && (!s.is || s.x.same(o.x) && s.y.same(o.y))
}

// world is one of both groups: its calls, and what the document says of it.
type world[E curve.Elem[E]] struct {
	name  string
	parts int // of 48 bytes
	c     *curve.Curve[E]
	gen   curve.Point[E]
	mul   func(curve.Point[E], fr.El) curve.Point[E]
	put   func(curve.Point[E]) []byte
	get   func([]byte) (curve.Point[E], api.Errno)
	b     num
	root  func(num) (num, bool)
	elem  func(num) E
	num   func(E) num
	at    func(n int64) num // the x that are asked about
}

// checks are what is asked of both.
type checks interface {
	puts(*testing.T)
	farPuts(*testing.T)
	values(*testing.T)
	outside(*testing.T)
	gets(*testing.T)
	farGets(*testing.T)
	refusals(*testing.T)
	fields(*testing.T)
	misses(*testing.T)
	members(*testing.T)
	turns(*testing.T)
	bits(*testing.T)
	lastBytes(*testing.T)
	texts(*testing.T)
	unlike(*testing.T)
	anything(*testing.T)
	again(*testing.T)
	stays(*testing.T)
}

// coordinate is that of a number.
func coordinate(b *big.Int) fq.El {
	var l [48]byte
	b.FillBytes(l[:])
	x, e := fq.From(l)
	if e != api.OK {
		panic(e)
	}
	return x
}

// bigOf is a coordinate's number.
func bigOf(x fq.El) *big.Int {
	b := x.Bytes()
	return new(big.Int).SetBytes(b[:])
}

func one() *world[fq.El] {
	return &world[fq.El]{
		"G1", 1, group.Curve1(), group.Gen1(), group.Mul1,
		func(p group.G1) []byte { b := points.Put1(p); return b[:] },
		func(b []byte) (group.G1, api.Errno) { return points.Get1([48]byte(b)) },
		small(1, 0), plain,
		func(x num) fq.El { return coordinate(x.a) },
		func(x fq.El) num { return num{bigOf(x), new(big.Int)} },
		func(n int64) num { return small(n, 0) },
	}
}

func two() *world[fq2.El] {
	fifth := new(big.Int).ModInverse(big.NewInt(-5), q()) // as u^2 is -5, 1 / u is u / -5
	return &world[fq2.El]{
		"G2", 2, group.Curve2(), group.Gen2(), group.Mul2,
		func(p group.G2) []byte { b := points.Put2(p); return b[:] },
		func(b []byte) (group.G2, api.Errno) { return points.Get2([96]byte(b)) },
		num{new(big.Int), fifth}, rootOf,
		func(x num) fq2.El { return fq2.El{A: coordinate(x.a), B: coordinate(x.b)} },
		func(x fq2.El) num { return num{bigOf(x.A), bigOf(x.B)} },
		func(n int64) num { return small(n, 1) },
	}
}

func both(t *testing.T, do func(checks)) {
	t.Helper()
	do(one())
	do(two())
}

// far are the far one's bytes.
func (w *world[E]) far() []byte {
	b := make([]byte, 48*w.parts)
	b[0] = 128
	return b
}

// lay are the bytes of an x, of numbers that may be above q too.
func (w *world[E]) lay(x num) []byte {
	l := make([]byte, 48*w.parts)
	x.a.FillBytes(l[len(l)-48:])
	if w.parts == 2 {
		x.b.FillBytes(l[:48])
	}
	return l
}

// text are a point's bytes, by what the document says.
func (w *world[E]) text(s spot) []byte {
	if !s.is {
		return w.far()
	}
	b := w.lay(s.x)
	if s.y.great() {
		b[0] += 64
	}
	return b
}

// lift is the point of x whose y is not great, by what the document says.
func (w *world[E]) lift(x num) (spot, bool) {
	y, ok := w.root(x.mul(x).mul(x).add(w.b))
	if !ok {
		return spot{}, false
	}
	if y.great() {
		y = y.neg()
	}
	return spot{x, y, true}, true
}

// value is what the curve tells of a point.
func (w *world[E]) value(t *testing.T, s spot) curve.Point[E] {
	t.Helper()
	if !s.is {
		return curve.Point[E]{}
	}
	p, e := w.c.Of(w.elem(s.x), w.elem(s.y))
	if e != api.OK {
		t.Fatalf("%s: Of(%v): %v", w.name, s, e)
	}
	return p
}

// several are several values of one point: what sums come to it.
func (w *world[E]) several(t *testing.T, p curve.Point[E]) []curve.Point[E] {
	t.Helper()
	c := w.c
	l := []curve.Point[E]{p, c.Neg(c.Neg(p)), c.Mul(p, []uint64{1}), c.Add(c.Mul(p, []uint64{5}), c.Neg(c.Mul(p, []uint64{4})))}
	for _, n := range []uint64{1, 2, 77} {
		other := c.Mul(w.gen, []uint64{n})
		l = append(l, c.Add(c.Add(p, other), c.Neg(other)))
	}
	return append(l, w.value(t, w.told(p)))
}

// told is what Affine tells.
func (w *world[E]) told(p curve.Point[E]) spot {
	x, y, is := w.c.Affine(p)
	return spot{w.num(x), w.num(y), is}
}

// member tells whether r times a point is the far one.
func (w *world[E]) member(t *testing.T, s spot) bool {
	t.Helper()
	return w.c.Same(w.c.Mul(w.value(t, s), fr.Modulus()), curve.Point[E]{})
}

// read is what the document says of bytes.
func (w *world[E]) read(t *testing.T, b []byte) (spot, api.Errno) {
	t.Helper()
	if b[0] >= 128 {
		if !slices.Equal(b, w.far()) {
			return spot{}, api.ErrForm
		}
		return spot{}, api.OK
	}
	rest := slices.Clone(b)
	turned := rest[0] >= 64
	rest[0] %= 64
	x := num{new(big.Int).SetBytes(rest[len(rest)-48:]), new(big.Int)}
	if w.parts == 2 {
		x.b.SetBytes(rest[:48])
	}
	if x.a.Cmp(q()) >= 0 || x.b.Cmp(q()) >= 0 {
		return spot{}, api.ErrField
	}
	s, ok := w.lift(x)
	switch {
	case !ok:
		return spot{}, api.ErrCurve
	case turned && s.y.zero():
		return spot{}, api.ErrForm
	case turned:
		s = s.neg()
	}
	if !w.member(t, s) {
		return spot{}, api.ErrGroup
	}
	return s, api.OK
}

// ask fails if bytes are not read as the document says, or if what is read of
// them has other ones. It tells the error.
func (w *world[E]) ask(t *testing.T, b []byte) api.Errno {
	t.Helper()
	s, want := w.read(t, b)
	p, e := w.get(b)
	if e != want {
		t.Errorf("%s: %x: %v, not %v", w.name, b, e, want)
	}
	if e != api.OK && p != (curve.Point[E]{}) {
		t.Errorf("%s: %x: beside %v there is a point", w.name, b, e)
	}
	if e == api.OK && want == api.OK {
		if !w.told(p).same(s) {
			t.Errorf("%s: %x is %v, not %v", w.name, b, w.told(p), s)
		}
		if back := w.put(p); !bytes.Equal(back, b) {
			t.Errorf("%s: %x, read, has the bytes %x", w.name, b, back)
		}
	}
	return want
}

// refuse fails if bytes are not refused by this error.
func (w *world[E]) refuse(t *testing.T, what string, b []byte, e api.Errno) {
	t.Helper()
	if p, got := w.get(b); got != e || p != (curve.Point[E]{}) {
		t.Errorf("%s: %s, %x: %v, %v, not %v", w.name, what, b, p, got, e)
	}
	if want := w.ask(t, b); want != e {
		t.Errorf("%s: %s, %x: by the document it is %v, not %v", w.name, what, b, want, e)
	}
}

// with are bytes with others in the first one beside them.
func with(b []byte, first byte) []byte {
	b = slices.Clone(b)
	b[0] |= first
	return b
}

// unhex are the bytes of hexadecimal digits.
func unhex(t *testing.T, digits string) []byte {
	t.Helper()
	b, e := hex.DecodeString(digits)
	if e != nil {
		t.Fatal(e)
	}
	return b
}

// found are the first points of the curve, by their x, and the first x without.
func (w *world[E]) found(count int) (l []spot, none []num) {
	for n := int64(0); len(l) < count || len(none) < count; n++ {
		if s, ok := w.lift(w.at(n)); ok {
			l = append(l, s)
		} else {
			none = append(none, w.at(n))
		}
	}
	return l[:count], none[:count]
}

// numbers makes numbers for tests by a rule, so that every run has the same ones.
type numbers struct{ state uint64 }

func (s *numbers) word() uint64 {
	s.state += 0x9e3779b97f4a7c15
	z := s.state
	z = (z ^ z>>30) * 0xbf58476d1ce4e5b9
	z = (z ^ z>>27) * 0x94d049bb133111eb
	return z ^ z>>31
}

// fill are so many bytes.
func (s *numbers) fill(count int) []byte {
	b := make([]byte, count)
	for i := range b {
		b[i] = byte(s.word())
	}
	return b
}

// scalar is one.
func (s *numbers) scalar() fr.El { return fr.Of(int64(s.word())).Mul(fr.Of(int64(s.word()))) }

// scalars are some: small ones, their negatives, and others.
func scalars() []fr.El {
	l, s := []fr.El{fr.Of(77), fr.Of(1 << 40)}, numbers{state: 5}
	for n := range int64(7) {
		l = append(l, fr.Of(n+1), fr.Of(-n-1), s.scalar())
	}
	return l
}
