package keys_test

import (
	"bytes"
	"fmt"
	"math"
	"math/big"
	"runtime"
	"slices"
	"sync"
	"testing"

	"marlinspike/api"
	"marlinspike/curve"
	"marlinspike/decide"
	"marlinspike/fq"
	"marlinspike/fq2"
	"marlinspike/fr"
	"marlinspike/group"
	"marlinspike/keys"
	"marlinspike/points"
	"marlinspike/srs"
)

// The chapter's words once more, apart from the program: points are pairs of numbers,
// and those are the library's big ones.

// atX is what a polynomial is worth at X; its coefficients are told the highest first.
func atX(coefficients ...int64) *big.Int {
	sum, x := new(big.Int), new(big.Int).SetUint64(api.X)
	for _, n := range coefficients {
		sum.Mul(sum, x).Add(sum, big.NewInt(n))
	}
	return sum
}

// r is X^4 - X^2 + 1, q is (X - 1)^2 r / 3 + X.
var r, q = func() (r, q *big.Int) {
	r = atX(1, 0, -1, 0, 1)
	q = new(big.Int).Mul(atX(1, -2, 1), r)
	return r, q.Div(q, big.NewInt(3)).Add(q, atX(1, 0))
}()

// num is a + b u by q, where u^2 is -5. Of G1 b is 0.
type num struct{ a, b *big.Int }

// byQ is a number of whole ones.
func byQ(a, b *big.Int) num { return num{a.Mod(a, q), b.Mod(b, q)} }

func (x num) same(y num) bool { return x.a.Cmp(y.a) == 0 && x.b.Cmp(y.b) == 0 }

func (x num) add(y num) num { return byQ(new(big.Int).Add(x.a, y.a), new(big.Int).Add(x.b, y.b)) }

func (x num) sub(y num) num { return byQ(new(big.Int).Sub(x.a, y.a), new(big.Int).Sub(x.b, y.b)) }

func (x num) mul(y num) num {
	a, bb := new(big.Int).Mul(x.a, y.a), new(big.Int).Mul(x.b, y.b)
	ab, ba := new(big.Int).Mul(x.a, y.b), new(big.Int).Mul(x.b, y.a)
	return byQ(a.Sub(a, bb.Mul(bb, big.NewInt(5))), ab.Add(ab, ba))
}

func (x num) inv() num {
	a, b := new(big.Int).Mul(x.a, x.a), new(big.Int).Mul(x.b, x.b)
	norm := a.Add(a, b.Mul(b, big.NewInt(5)))
	per := new(big.Int).ModInverse(norm.Mod(norm, q), q)
	return byQ(new(big.Int).Mul(x.a, per), new(big.Int).Neg(new(big.Int).Mul(x.b, per)))
}

// great tells whether a number is the great one of it and its negative.
func (x num) great() bool {
	n := x.b
	if n.Sign() == 0 {
		n = x.a
	}
	return n.Cmp(new(big.Int).Rsh(q, 1)) > 0
}

// spot is a point of either group, or else, where is is false, the far one.
type spot struct {
	x, y num
	is   bool
}

func (p spot) add(o spot) spot {
	switch {
	case !p.is:
		return o
	case !o.is:
		return p
	case p.x.same(o.x) && !p.y.same(o.y):
		return spot{} // none of these points is its own negative
	}
	up, across := o.y.sub(p.y), o.x.sub(p.x)
	if p.x.same(o.x) {
		square := p.x.mul(p.x)
		up, across = square.add(square).add(square), p.y.add(p.y)
	}
	l := up.mul(across.inv())
	x := l.mul(l).sub(p.x).sub(o.x)
	return spot{x, l.mul(p.x.sub(x)).sub(p.y), true}
}

// text are a point's bytes, so many times 48.
func (p spot) text(parts int) []byte {
	b := make([]byte, 48*parts)
	if !p.is {
		b[0] = 128
		return b
	}
	p.x.a.FillBytes(b[48*parts-48:])
	if parts == 2 {
		p.x.b.FillBytes(b[:48])
	}
	if p.y.great() {
		b[0] += 64
	}
	return b
}

// number is the number of hexadecimal digits.
func number(digits string) *big.Int {
	n, is := new(big.Int).SetString(digits, 16)
	if !is {
		panic(digits)
	}
	return n
}

// doublesOf are a point, and twice each one, up to what a number below r may need.
func doublesOf(p spot) (l []spot) {
	for range r.BitLen() {
		l = append(l, p)
		p = p.add(p)
	}
	return l
}

// doubles1, doubles2 are those of the generators, as they were worked out apart from the
// program.
var (
	doubles1 = doublesOf(spot{num{number(gen1X), new(big.Int)}, num{number(gen1Y), new(big.Int)}, true})
	doubles2 = doublesOf(spot{num{number(gen2XA), number(gen2XB)}, num{number(gen2YA), number(gen2YB)}, true})
)

// multiple is a point so often, of what is twice each one.
func multiple(doubles []spot, k *big.Int) (sum spot) {
	for i := range k.BitLen() {
		if k.Bit(i) == 1 {
			sum = sum.add(doubles[i])
		}
	}
	return sum
}

// memo keeps what was worked out of numbers, as a multiple takes long.
type memo[V any] struct {
	lock sync.Mutex
	of   map[string]V
	work func(k *big.Int) V
}

func (m *memo[V]) tell(k *big.Int) V {
	k = mod(k)
	m.lock.Lock()
	v, is := m.of[k.String()]
	m.lock.Unlock()
	if !is {
		v = m.work(k)
		m.lock.Lock()
		m.of[k.String()] = v
		m.lock.Unlock()
	}
	return v
}

// kept is a memo.
func kept[V any](work func(k *big.Int) V) *memo[V] {
	return &memo[V]{of: map[string]V{}, work: work}
}

// texts1, texts2 are the bytes of multiples of the generators, by the chapter's words;
// points1, points2 are the points themselves, as the group tells them.
var (
	texts1  = kept(func(k *big.Int) []byte { return multiple(doubles1, k).text(1) })
	texts2  = kept(func(k *big.Int) []byte { return multiple(doubles2, k).text(2) })
	points1 = kept(func(k *big.Int) group.G1 { return group.Mul1(gen1, el(k)) })
	points2 = kept(func(k *big.Int) group.G2 { return group.Mul2(gen2, el(k)) })
)

// The generators: to find them takes long.
var gen1, gen2 = group.Gen1(), group.Gen2()

// whole is a small number.
func whole(n int64) *big.Int { return big.NewInt(n) }

// wholes are small ones.
func wholes(l ...int64) (ks []*big.Int) {
	for _, n := range l {
		ks = append(ks, whole(n))
	}
	return ks
}

// mod is the number from 0 to r - 1.
func mod(k *big.Int) *big.Int { return new(big.Int).Mod(k, r) }

// plus is a sum, times a product, less a difference, per a quotient, all by r.
func plus(x, y *big.Int) *big.Int  { return mod(new(big.Int).Add(x, y)) }
func times(x, y *big.Int) *big.Int { return mod(new(big.Int).Mul(x, y)) }
func less(x, y *big.Int) *big.Int  { return mod(new(big.Int).Sub(x, y)) }
func per(x, y *big.Int) *big.Int   { return times(x, new(big.Int).ModInverse(y, r)) }

// minus is r less n.
func minus(n int64) *big.Int { return new(big.Int).Sub(r, whole(n)) }

// raised is x^i, by r.
func raised(x *big.Int, i int) *big.Int {
	return new(big.Int).Exp(mod(x), big.NewInt(int64(i)), r)
}

// bytesOf are a number's bytes.
func bytesOf(k *big.Int) (s api.Scalar) {
	k.FillBytes(s[:])
	return s
}

// el is the scalar of a number.
func el(k *big.Int) fr.El {
	x, e := fr.From(bytesOf(mod(k)))
	if e != api.OK {
		panic(e)
	}
	return x
}

// els are the scalars of numbers.
func els(l []*big.Int) []fr.El {
	all := make([]fr.El, len(l))
	for i, k := range l {
		all[i] = el(k)
	}
	return all
}

// back is the number of a scalar.
func back(x fr.El) *big.Int {
	s := x.Scalar()
	return new(big.Int).SetBytes(s[:])
}

// backs are the numbers of scalars.
func backs(l []fr.El) (ks []*big.Int) {
	for _, x := range l {
		ks = append(ks, back(x))
	}
	return ks
}

// five are a key's numbers.
type five struct{ n, x, m, inputs, d int }

// sizes are those of them that are such.
func (f five) sizes() decide.Sizes { return decide.Sizes{N: f.n, X: f.x, M: f.m} }

// key is one of these numbers and of far points.
func (f five) key() keys.Key { return keys.Key{Z: f.sizes(), Inputs: f.inputs, D: f.d} }

// but are the same but for one number, by its place.
func (f five) but(i, n int) five {
	*[]*int{&f.n, &f.x, &f.m, &f.inputs, &f.d}[i] = n
	return f
}

// text are their bytes.
func (f five) text() (b []byte) {
	for i, n := range []int{f.n, f.x, f.m, f.inputs, f.d} {
		room := make([]byte, []int{4, 4, 4, 2, 2}[i])
		b = append(b, whole(int64(n)).FillBytes(room)...)
	}
	return b
}

// needOf is the need, by numbers of any length.
func needOf(z decide.Sizes) *big.Int {
	a, b := whole(int64(z.N)), whole(int64(z.M))
	a.Mul(a, whole(2))
	b.Mul(b, whole(6))
	if a.Cmp(b) > 0 {
		return a
	}
	return b
}

// isSize tells whether a domain has that size.
func isSize(n int) bool { return slices.Contains(powersOf2(), n) }

// fault is what Check has to tell.
func (f five) fault() api.Errno {
	twice := whole(int64(f.x))
	twice.Mul(twice, whole(2))
	switch {
	case !isSize(f.n) || !isSize(f.x) || !isSize(f.m) || whole(int64(f.n)).Cmp(twice) < 0 || f.m < 2:
		return api.ErrSize
	case f.inputs < 1 || f.inputs > f.x || f.d > api.MaxPower:
		return api.ErrArg
	case whole(int64(f.d)).Cmp(needOf(f.sizes())) < 0:
		return api.ErrDegree
	}
	return api.OK
}

// powersOf2 are the sizes that domains have, noSizes numbers that are none.
func powersOf2() (l []int) {
	for n := 1; n <= api.MaxDomain; n *= 2 {
		l = append(l, n)
	}
	return l
}

func noSizes() []int {
	return []int{0, -1, -2, -4, -api.MaxDomain, 3, 5, 6, 7, 9, 12, 1000, api.MaxDomain - 1, api.MaxDomain + 1, 3 * api.MaxDomain / 4, 2 * api.MaxDomain, 1 << 20, 1 << 31, 1<<31 + 1, 1 << 32, 1<<32 + 1, 1<<32 + 4, 1 << 47, 1 << 48, 1 << 61, 1 << 62, math.MinInt, math.MinInt + 1, math.MinInt + 4, math.MaxInt, math.MaxInt - 1, math.MaxInt / 2, math.MaxInt/2 + 1, math.MaxInt / 6, math.MaxInt/6 + 1, math.MinInt / 2, math.MinInt/2 - 1, math.MinInt / 6, math.MinInt/6 - 1}
}

// goods are numbers that may be: of some the need is 2 N, of some 6 M, of some both are
// nearly alike; of some D is the need, or the greatest one.
func goods() []five {
	return []five{
		{4, 2, 2, 2, 12}, {2, 1, 2, 1, 12}, {2, 1, 2, 1, 13}, {4, 2, 2, 1, 300}, {8, 2, 4, 2, 24}, {8, 4, 2, 3, 16}, {16, 1, 2, 1, 32}, {16, 8, 4, 7, 32},
		{16, 8, 8, 8, 48}, {64, 32, 2, 20, 128}, {64, 16, 16, 16, 128}, {64, 16, 32, 1, 192}, {4, 1, 64, 1, 500}, {4096, 2048, 2, 1025, 8192},
		{1024, 512, 2048, 257, 12288}, {8192, 4096, 1024, 4096, api.MaxPower}, {8192, 4096, 2048, 4095, api.MaxPower}, {4, 2, 2, 2, api.MaxPower},
	}
}

// tale is a key, told by what the generators are multiplied by: the commitments in the
// order of its bytes.
type tale struct {
	five
	blind, tau *big.Int
	c          [9]*big.Int
}

// text are its bytes.
func (x tale) text() []byte {
	b := slices.Concat(x.five.text(), texts1.tell(x.blind), texts2.tell(x.tau))
	for _, k := range x.c {
		b = append(b, texts1.tell(k)...)
	}
	return b
}

// key is it, of points as the group tells them.
func (x tale) key() keys.Key {
	k := x.five.key()
	k.Blind, k.Tau = points1.tell(x.blind), points2.tell(x.tau)
	for i, p := range commitments(&k) {
		*p = points1.tell(x.c[i])
	}
	return k
}

// commitments are where a key has its own, in the order of its bytes.
func commitments(k *keys.Key) (l []*group.G1) {
	for i := range 9 {
		l = append(l, &[]*[3]group.G1{&k.Row, &k.Col, &k.Val}[i/3][i%3])
	}
	return l
}

// anyTale is one of numbers, and of any points; some are far.
func (s *numbers) anyTale(f five) tale {
	x := tale{five: f, blind: s.big(), tau: s.big()}
	for i := range x.c {
		if x.c[i] = s.big(); s.below(5) == 0 {
			x.c[i] = whole(0)
		}
	}
	return x
}

// wantSame1 fails if two points of G1 are not the same.
func wantSame1(t *testing.T, what string, p, o group.G1) {
	t.Helper()
	if !group.Curve1().Same(p, o) {
		t.Errorf("%s: it is %x, not %x", what, points.Put1(p), points.Put1(o))
	}
}

// wantSame2 is the same of G2.
func wantSame2(t *testing.T, what string, p, o group.G2) {
	t.Helper()
	if !group.Curve2().Same(p, o) {
		t.Errorf("%s: it is %x, not %x", what, points.Put2(p), points.Put2(o))
	}
}

// wantSame fails if two keys' numbers, or points, are not the same.
func wantSame(t *testing.T, what string, k, o keys.Key) {
	t.Helper()
	if k.Z != o.Z || k.Inputs != o.Inputs || k.D != o.D {
		t.Errorf("%s: %+v, %d, %d, not %+v, %d, %d", what, k.Z, k.Inputs, k.D, o.Z, o.Inputs, o.D)
	}
	wantSame1(t, what+", the blind", k.Blind, o.Blind)
	wantSame2(t, what+", Tau", k.Tau, o.Tau)
	l := commitments(&o)
	for i, p := range commitments(&k) {
		wantSame1(t, fmt.Sprint(what, ", the commitment ", i), *p, *l[i])
	}
}

// want fails if a key is not that of a tale, or has not its bytes.
func want(t *testing.T, what string, k keys.Key, x tale) {
	t.Helper()
	if k.Z != x.sizes() || k.Inputs != x.inputs || k.D != x.d {
		t.Errorf("%s: %+v, %d, %d, not %+v", what, k.Z, k.Inputs, k.D, x.five)
	}
	if b := points.Put1(k.Blind); !bytes.Equal(b[:], texts1.tell(x.blind)) {
		t.Errorf("%s: the blind is %x, not %x", what, b, texts1.tell(x.blind))
	}
	if b := points.Put2(k.Tau); !bytes.Equal(b[:], texts2.tell(x.tau)) {
		t.Errorf("%s: Tau is %x, not %x", what, b, texts2.tell(x.tau))
	}
	for i, p := range commitments(&k) {
		if b := points.Put1(*p); !bytes.Equal(b[:], texts1.tell(x.c[i])) {
			t.Errorf("%s: the commitment %d is %x, not %x", what, i, b, texts1.tell(x.c[i]))
		}
	}
	if b, e := k.Bytes(); e != api.OK || !bytes.Equal(b, x.text()) {
		t.Errorf("%s: its bytes are %x, %v, not %x", what, b, e, x.text())
	}
}

// textOf are a key's bytes.
func textOf(t *testing.T, what string, k keys.Key) []byte {
	t.Helper()
	b, e := k.Bytes()
	if e != api.OK || len(b) != 592 {
		t.Fatalf("%s: %d bytes, %v", what, len(b), e)
	}
	return b
}

// got is the key of bytes.
func got(t *testing.T, what string, b []byte) keys.Key {
	t.Helper()
	k, e := keys.Get(b)
	if e != api.OK {
		t.Fatalf("%s: %v", what, e)
	}
	return k
}

// refuse fails if Get does not answer this error of bytes, and nothing else.
func refuse(t *testing.T, what string, b []byte, wanted api.Errno) {
	t.Helper()
	if k, e := keys.Get(b); e != wanted || k != (keys.Key{}) {
		t.Errorf("%s: %+v, %v, not %v", what, k, e, wanted)
	}
}

// made is the setup that srs tells.
func made(t *testing.T, tau, g *big.Int, n int) *srs.SRS {
	t.Helper()
	s, e := srs.New(el(tau), el(g), n)
	if e != api.OK || s == nil {
		t.Fatalf("New(%v, %v, %d): %v", tau, g, n, e)
	}
	return s
}

// trimmed is a setup of a lesser degree.
func trimmed(t *testing.T, s *srs.SRS, n int) *srs.SRS {
	t.Helper()
	short, e := s.Trim(n)
	if e != api.OK {
		t.Fatalf("Trim(%d): %v", n, e)
	}
	return short
}

// ones is the setup of 1 and g, of any degree, which takes no time to make.
func ones(g *big.Int, n int) *srs.SRS {
	return &srs.SRS{
		Powers: slices.Repeat([]group.G1{gen1}, n+1),
		Blinds: slices.Repeat([]group.G1{points1.tell(g)}, n+1), Tau: gen2,
	}
}

// exps are a setup, told by what the generators are multiplied by.
type exps struct {
	powers, blinds []*big.Int
	tau            *big.Int
}

// expsOf are those of the setup of two scalars.
func expsOf(t, g *big.Int, n int) exps {
	x := exps{tau: t}
	for i := range n + 1 {
		x.powers = append(x.powers, raised(t, i))
		x.blinds = append(x.blinds, times(g, raised(t, i)))
	}
	return x
}

// loose are those of no good setup: powers of 7, 11 and 13.
func loose(n int) exps {
	x := exps{tau: raised(whole(13), 30)}
	for i := range n + 1 {
		x.powers = append(x.powers, raised(whole(7), 50*(i+1)))
		x.blinds = append(x.blinds, raised(whole(11), 40*(i+1)))
	}
	return x
}

// setup are its points, as the group tells them.
func (x exps) setup() *srs.SRS {
	s := &srs.SRS{Tau: points2.tell(x.tau)}
	for i := range x.powers {
		s.Powers = append(s.Powers, points1.tell(x.powers[i]))
		s.Blinds = append(s.Blinds, points1.tell(x.blinds[i]))
	}
	return s
}

// commitment is what the generator is multiplied by in that to a polynomial.
func (x exps) commitment(p []*big.Int) *big.Int {
	sum := new(big.Int)
	for i, k := range p {
		if k.Sign() != 0 {
			sum = plus(sum, times(k, x.powers[i]))
		}
	}
	return sum
}

const ways = 5 // how many values several tells

// several are several values of one point: what sums come to it.
func several[E curve.Elem[E]](c *curve.Curve[E], gen, p curve.Point[E]) []curve.Point[E] {
	l := []curve.Point[E]{p, c.Add(c.Mul(p, []uint64{5}), c.Neg(c.Mul(p, []uint64{4})))}
	for _, n := range []uint64{1, 2, 77} {
		other := c.Mul(gen, []uint64{n})
		l = append(l, c.Add(c.Add(p, other), c.Neg(other)))
	}
	return l
}

// other is a key of the same points, told by other values.
func other(k keys.Key, way int) keys.Key {
	k.Blind = several(group.Curve1(), gen1, k.Blind)[way%ways]
	k.Tau = several(group.Curve2(), gen2, k.Tau)[(way+1)%ways]
	for i, p := range commitments(&k) {
		*p = several(group.Curve1(), gen1, *p)[(way+i)%ways]
	}
	return k
}

// otherSetup is a setup of the same points, told by other values.
func otherSetup(s *srs.SRS, way int) *srs.SRS {
	o := &srs.SRS{Tau: several(group.Curve2(), gen2, s.Tau)[way%ways]}
	for i := range s.Powers {
		o.Powers = append(o.Powers, several(group.Curve1(), gen1, s.Powers[i])[(way+i)%ways])
		o.Blinds = append(o.Blinds, several(group.Curve1(), gen1, s.Blinds[i])[(way+i+1)%ways])
	}
	return o
}

// strange are points that no call told, or that are not of the groups.
func strange() (l []group.G1, m []group.G2) {
	ns, ms := []fq.El{{}, fq.Of(1), fq.Of(-1), fq.Of(7)}, []fq2.El{{}, fq2.Of(1, 0), fq2.Of(0, -1), fq2.Of(7, 3)}
	for i := range 64 {
		l = append(l, group.G1{X: ns[i%4], Y: ns[i/4%4], Z: ns[i/16]})
		m = append(m, group.G2{X: ms[i%4], Y: ms[i/4%4], Z: ms[i/16]})
	}
	p, e := group.Curve1().Of(fq.Of(2), fq.Of(3))
	if e != api.OK {
		panic(e)
	}
	return append(l, p, group.Curve1().Add(gen1, p)), m
}

// together does things by several at once, as they take long.
func together(count int, do func(i int)) {
	var workers sync.WaitGroup
	for first := range runtime.NumCPU() {
		workers.Go(func() {
			for i := first; i < count; i += runtime.NumCPU() {
				do(i)
			}
		})
	}
	workers.Wait()
}

// numbers makes numbers for tests by a rule, so that every run has the same ones.
type numbers struct{ state uint64 }

func (s *numbers) word() uint64 {
	s.state += 0x9e3779b97f4a7c15
	z := s.state
	z = (z ^ z>>30) * 0xbf58476d1ce4e5b9
	z = (z ^ z>>27) * 0x94d049bb133111eb
	return z ^ z>>31
}

// below is a number from 0 to n - 1.
func (s *numbers) below(n int) int { return int(s.word() % uint64(n)) }

// big is one from 1 to r - 1.
func (s *numbers) big() *big.Int {
	n := new(big.Int)
	for range 5 {
		n.Lsh(n, 64).Or(n, new(big.Int).SetUint64(s.word()))
	}
	n.Mod(n, minus(1))
	return n.Add(n, whole(1))
}

// bigs are n of them.
func (s *numbers) bigs(n int) (l []*big.Int) {
	for range n {
		l = append(l, s.big())
	}
	return l
}
