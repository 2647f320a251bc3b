package proof_test

import (
	"bytes"
	"fmt"
	"math/big"
	"runtime"
	"slices"
	"sync"
	"testing"

	"marlinspike/api"
	"marlinspike/decide"
	"marlinspike/fq"
	"marlinspike/fr"
	"marlinspike/group"
	"marlinspike/points"
	"marlinspike/proof"
)

// The chapters' words once more, apart from the program: points are pairs of numbers, and
// those are the library's big ones.

// atX is what a polynomial is worth at X; its coefficients are told the highest first.
func atX(coefficients ...int64) *big.Int {
	sum, x := new(big.Int), new(big.Int).SetUint64(api.X)
	for _, n := range coefficients {
		sum.Mul(sum, x).Add(sum, big.NewInt(n))
	}
	return sum
}

// r is X^4 - X^2 + 1, q is (X - 1)^2 r / 3 + X.
var r, q = func() (r, q *big.Int) {
	r = atX(1, 0, -1, 0, 1)
	q = new(big.Int).Mul(atX(1, -2, 1), r)
	return r, q.Div(q, big.NewInt(3)).Add(q, atX(1, 0))
}()

// byQ is a number by q.
func byQ(n *big.Int) *big.Int { return n.Mod(n, q) }

// spot is a point of G1, or else, where is is false, the far one.
type spot struct {
	x, y *big.Int
	is   bool
}

func (p spot) add(o spot) spot {
	switch {
	case !p.is:
		return o
	case !o.is:
		return p
	case p.x.Cmp(o.x) == 0 && p.y.Cmp(o.y) != 0:
		return spot{} // none of these points is its own negative
	}
	up, across := new(big.Int).Sub(o.y, p.y), new(big.Int).Sub(o.x, p.x)
	if p.x.Cmp(o.x) == 0 {
		up.Mul(p.x, p.x).Mul(up, big.NewInt(3))
		across.Lsh(p.y, 1)
	}
	l := byQ(up.Mul(up, across.ModInverse(byQ(across), q)))
	x := new(big.Int).Mul(l, l)
	x = byQ(x.Sub(x, p.x).Sub(x, o.x))
	y := new(big.Int).Sub(p.x, x)
	return spot{x, byQ(y.Mul(y, l).Sub(y, p.y)), true}
}

// text are a point's bytes.
func (p spot) text() []byte {
	b := make([]byte, 48)
	if !p.is {
		b[0] = 128
		return b
	}
	p.x.FillBytes(b)
	if p.y.Cmp(new(big.Int).Rsh(q, 1)) > 0 {
		b[0] += 64
	}
	return b
}

// number is the number of hexadecimal digits.
func number(digits string) *big.Int {
	n, is := new(big.Int).SetString(digits, 16)
	if !is {
		panic(digits)
	}
	return n
}

// doubles are the generator, as it was worked out apart from the program, and twice each
// one, up to what a number below r may need.
var doubles = func() (l []spot) {
	p := spot{number(gen1X), number(gen1Y), true}
	for range r.BitLen() {
		l = append(l, p)
		p = p.add(p)
	}
	return l
}()

// multiple is the generator so often.
func multiple(k *big.Int) (sum spot) {
	for i := range k.BitLen() {
		if k.Bit(i) == 1 {
			sum = sum.add(doubles[i])
		}
	}
	return sum
}

// memo keeps what was worked out of numbers, as a multiple takes long.
type memo[V any] struct {
	lock sync.Mutex
	of   map[string]V
	work func(k *big.Int) V
}

func (m *memo[V]) tell(k *big.Int) V {
	k = mod(k)
	m.lock.Lock()
	v, is := m.of[k.String()]
	m.lock.Unlock()
	if !is {
		v = m.work(k)
		m.lock.Lock()
		m.of[k.String()] = v
		m.lock.Unlock()
	}
	return v
}

// kept is a memo.
func kept[V any](work func(k *big.Int) V) *memo[V] {
	return &memo[V]{of: map[string]V{}, work: work}
}

// texts1 are the bytes of multiples of the generator, by the chapters' words; points1 are the
// points themselves, as the group tells them.
var (
	texts1  = kept(func(k *big.Int) []byte { return multiple(k).text() })
	points1 = kept(func(k *big.Int) group.G1 { return group.Mul1(gen1, el(k)) })
)

// The generator: to find it takes long.
var gen1 = group.Gen1()

// whole is a small number.
func whole(n int64) *big.Int { return big.NewInt(n) }

// wholes are small ones.
func wholes(l ...int64) (ks []*big.Int) {
	for _, n := range l {
		ks = append(ks, whole(n))
	}
	return ks
}

// mod is the number from 0 to r - 1.
func mod(k *big.Int) *big.Int { return new(big.Int).Mod(k, r) }

// minus is r less n.
func minus(n int64) *big.Int { return new(big.Int).Sub(r, whole(n)) }

// bytesOf are a number's bytes.
func bytesOf(k *big.Int) (s api.Scalar) {
	k.FillBytes(s[:])
	return s
}

// el is the scalar of a number.
func el(k *big.Int) fr.El {
	x, e := fr.From(bytesOf(mod(k)))
	if e != api.OK {
		panic(e)
	}
	return x
}

// els are the scalars of numbers.
func els(l []*big.Int) []fr.El {
	all := make([]fr.El, len(l))
	for i, k := range l {
		all[i] = el(k)
	}
	return all
}

// tale is a proof, told by what the generator is multiplied by, and by numbers: points and
// scalars in the order of its bytes.
type tale struct {
	c [13]*big.Int
	s [19]*big.Int
}

// text are its bytes, place by place.
func (x tale) text() []byte {
	b := make([]byte, 1232)
	for i, k := range x.c {
		copy(b[pointPlaces()[i]:], texts1.tell(k))
	}
	for i, k := range x.s {
		s := bytesOf(mod(k))
		copy(b[scalarPlaces()[i]:], s[:])
	}
	return b
}

// pointPlaces are where a proof's points begin, in order; scalarPlaces are where its scalars
// do.
func pointPlaces() []int {
	return []int{0, 48, 96, 144, 192, 240, 288, 336, 384, 432, 480, 1136, 1184}
}

func scalarPlaces() []int {
	return []int{528, 560, 592, 624, 656, 688, 720, 752, 784, 816, 848, 880, 912, 944, 976, 1008, 1040, 1072, 1104}
}

// pointsOf are where a proof has its points, in the order of its bytes; scalarsOf are where it
// has its scalars, Blind behind the values.
func pointsOf(p *proof.Proof) []*group.G1 {
	return []*group.G1{&p.W, &p.A, &p.B, &p.S, &p.T, &p.G1, &p.G1s, &p.H1, &p.G2, &p.G2s, &p.H2, &p.Wb, &p.Wg}
}

func scalarsOf(p *proof.Proof) []*fr.El { return append(valuesOf(&p.V), &p.Blind) }

// valuesOf are where values have their scalars, in that order.
func valuesOf(v *decide.Values) []*fr.El {
	return []*fr.El{
		&v.W, &v.A, &v.B, &v.S, &v.T, &v.G1, &v.H1, &v.Row[0], &v.Row[1], &v.Row[2],
		&v.Col[0], &v.Col[1], &v.Col[2], &v.Val[0], &v.Val[1], &v.Val[2], &v.G2, &v.H2,
	}
}

// proof is it, of points as the group tells them.
func (x tale) proof() (p proof.Proof) {
	for i, at := range pointsOf(&p) {
		*at = points1.tell(x.c[i])
	}
	for i, at := range scalarsOf(&p) {
		*at = el(x.s[i])
	}
	return p
}

// one is a tale of the numbers from n on.
func one(n int64) (x tale) {
	for i := range x.c {
		x.c[i] = whole(n + int64(i))
	}
	for i := range x.s {
		x.s[i] = whole(n + 13 + int64(i))
	}
	return x
}

// all is a tale of one number.
func all(k *big.Int) (x tale) {
	return tale{[13]*big.Int(slices.Repeat([]*big.Int{k}, 13)), [19]*big.Int(slices.Repeat([]*big.Int{k}, 19))}
}

// anyTale is one of any numbers; some are 0.
func (s *numbers) anyTale() (x tale) {
	pick := func() *big.Int {
		if s.below(6) == 0 {
			return whole(0)
		}
		return s.big()
	}
	for i := range x.c {
		x.c[i] = pick()
	}
	for i := range x.s {
		x.s[i] = pick()
	}
	return x
}

// tales are those that the tests go by.
func tales() []tale {
	l := []tale{one(1), all(whole(0)), all(whole(1)), all(minus(1)), one(-40), one(1 << 40)}
	s := numbers{state: 90}
	for range 8 {
		l = append(l, s.anyTale())
	}
	return l
}

// wantSame1 fails if two points are not the same.
func wantSame1(t *testing.T, what string, p, o group.G1) {
	t.Helper()
	if !group.Curve1().Same(p, o) {
		t.Errorf("%s: it is %x, not %x", what, points.Put1(p), points.Put1(o))
	}
}

// wantSame fails if two proofs' scalars, or points, are not the same.
func wantSame(t *testing.T, what string, p, o proof.Proof) {
	t.Helper()
	if p.V != o.V || p.Blind != o.Blind {
		t.Errorf("%s: %+v, %v, not %+v, %v", what, p.V, p.Blind, o.V, o.Blind)
	}
	l := pointsOf(&o)
	for i, at := range pointsOf(&p) {
		wantSame1(t, fmt.Sprint(what, ", the point ", i), *at, *l[i])
	}
}

// want fails if a proof is not that of a tale, or has not its bytes.
func want(t *testing.T, what string, p proof.Proof, x tale) {
	t.Helper()
	for i, at := range pointsOf(&p) {
		if b := points.Put1(*at); !bytes.Equal(b[:], texts1.tell(x.c[i])) {
			t.Errorf("%s: the point %d is %x, not %x", what, i, b, texts1.tell(x.c[i]))
		}
	}
	for i, at := range scalarsOf(&p) {
		if *at != el(x.s[i]) {
			t.Errorf("%s: the scalar %d is %x, not %x", what, i, at.Scalar(), mod(x.s[i]))
		}
	}
	wantBytes(t, what, p.Bytes(), x.text())
}

// wantBytes fails if bytes are not these.
func wantBytes(t *testing.T, what string, b, wanted []byte) {
	t.Helper()
	if !bytes.Equal(b, wanted) {
		t.Errorf("%s: %x, not %x", what, b, wanted)
	}
}

// got is the proof of bytes.
func got(t *testing.T, what string, b []byte) proof.Proof {
	t.Helper()
	p, e := proof.Get(b)
	if e != api.OK {
		t.Errorf("%s: %v", what, e)
	}
	return p
}

// refuse fails if Get does not answer this error of bytes, and nothing else.
func refuse(t *testing.T, what string, b []byte, wanted api.Errno) {
	t.Helper()
	if p, e := proof.Get(b); e != wanted || p != (proof.Proof{}) {
		t.Errorf("%s: %+v, %v, not %v", what, p, e, wanted)
	}
}

// spoilt are bytes with others in place of some.
func spoilt(b []byte, at int, text []byte) []byte {
	bad := slices.Clone(b)
	copy(bad[at:], text)
	return bad
}

const ways = 5 // how many values several tells

// several are several values of one point: what sums come to it.
func several(p group.G1) []group.G1 {
	c := group.Curve1()
	l := []group.G1{p, c.Add(c.Mul(p, []uint64{5}), c.Neg(c.Mul(p, []uint64{4})))}
	for _, n := range []int64{1, 2, 77} {
		o := points1.tell(whole(n))
		l = append(l, c.Add(c.Add(p, o), c.Neg(o)))
	}
	return l
}

// other is a proof of the same points, told by other values.
func other(p proof.Proof, way int) proof.Proof {
	for i, at := range pointsOf(&p) {
		*at = several(*at)[(way+i)%ways]
	}
	return p
}

// orderSix is a point of the curve that is not of the group.
func orderSix() group.G1 {
	p, e := group.Curve1().Of(fq.Of(2), fq.Of(3))
	if e != api.OK {
		panic(e)
	}
	return p
}

// strange are points that no call told, or that are not of the group.
func strange() (l []group.G1) {
	ns := []fq.El{{}, fq.Of(1), fq.Of(-1), fq.Of(7)}
	for i := range 64 {
		l = append(l, group.G1{X: ns[i%4], Y: ns[i/4%4], Z: ns[i/16]})
	}
	return append(l, orderSix(), group.Curve1().Add(gen1, orderSix()))
}

// together does things by several at once, as they take long.
func together(count int, do func(i int)) {
	var workers sync.WaitGroup
	for first := range runtime.NumCPU() {
		workers.Go(func() {
			for i := first; i < count; i += runtime.NumCPU() {
				do(i)
			}
		})
	}
	workers.Wait()
}

// numbers makes numbers for tests by a rule, so that every run has the same ones.
type numbers struct{ state uint64 }

func (s *numbers) word() uint64 {
	s.state += 0x9e3779b97f4a7c15
	z := s.state
	z = (z ^ z>>30) * 0xbf58476d1ce4e5b9
	z = (z ^ z>>27) * 0x94d049bb133111eb
	return z ^ z>>31
}

// below is a number from 0 to n - 1.
func (s *numbers) below(n int) int { return int(s.word() % uint64(n)) }

// big is one from 1 to r - 1.
func (s *numbers) big() *big.Int {
	n := new(big.Int)
	for range 5 {
		n.Lsh(n, 64).Or(n, new(big.Int).SetUint64(s.word()))
	}
	n.Mod(n, minus(1))
	return n.Add(n, whole(1))
}

// bigs are n of them.
func (s *numbers) bigs(n int) (l []*big.Int) {
	for range n {
		l = append(l, s.big())
	}
	return l
}
