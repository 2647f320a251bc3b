package marlin_test

import (
	"fmt"
	"math/big"
	"runtime"
	"slices"
	"sync"

	"marlinspike/api"
	"marlinspike/curve"
	"marlinspike/fr"
	"marlinspike/group"
	"marlinspike/srs"
)

// The document's words once more, apart from the program: numbers are the library's big
// ones, points are pairs of them.

// atX is what a polynomial is worth at X; its coefficients are told the highest first.
func atX(coefficients ...int64) *big.Int {
	sum, x := new(big.Int), new(big.Int).SetUint64(api.X)
	for _, n := range coefficients {
		sum.Mul(sum, x).Add(sum, big.NewInt(n))
	}
	return sum
}

// r is X^4 - X^2 + 1, q is (X - 1)^2 r / 3 + X.
var r, q = func() (r, q *big.Int) {
	r = atX(1, 0, -1, 0, 1)
	q = new(big.Int).Mul(atX(1, -2, 1), r)
	return r, q.Div(q, big.NewInt(3)).Add(q, atX(1, 0))
}()

// num is a + b u by q, where u^2 is -5. Of G1 b is 0.
type num struct{ a, b *big.Int }

// byQ is a number of whole ones.
func byQ(a, b *big.Int) num { return num{a.Mod(a, q), b.Mod(b, q)} }

func (x num) same(y num) bool { return x.a.Cmp(y.a) == 0 && x.b.Cmp(y.b) == 0 }

func (x num) add(y num) num { return byQ(new(big.Int).Add(x.a, y.a), new(big.Int).Add(x.b, y.b)) }

func (x num) sub(y num) num { return byQ(new(big.Int).Sub(x.a, y.a), new(big.Int).Sub(x.b, y.b)) }

func (x num) mul(y num) num {
	a, bb := new(big.Int).Mul(x.a, y.a), new(big.Int).Mul(x.b, y.b)
	ab, ba := new(big.Int).Mul(x.a, y.b), new(big.Int).Mul(x.b, y.a)
	return byQ(a.Sub(a, bb.Mul(bb, big.NewInt(5))), ab.Add(ab, ba))
}

func (x num) inv() num {
	a, b := new(big.Int).Mul(x.a, x.a), new(big.Int).Mul(x.b, x.b)
	norm := a.Add(a, b.Mul(b, big.NewInt(5)))
	per := new(big.Int).ModInverse(norm.Mod(norm, q), q)
	return byQ(new(big.Int).Mul(x.a, per), new(big.Int).Neg(new(big.Int).Mul(x.b, per)))
}

// great tells whether a number is the great one of it and its negative.
func (x num) great() bool {
	n := x.b
	if n.Sign() == 0 {
		n = x.a
	}
	return n.Cmp(new(big.Int).Rsh(q, 1)) > 0
}

// spot is a point of either group, or else, where is is false, the far one.
type spot struct {
	x, y num
	is   bool
}

func (p spot) add(o spot) spot {
	switch {
	case !p.is:
		return o
	case !o.is:
		return p
	case p.x.same(o.x) && !p.y.same(o.y):
		return spot{} // none of these points is its own negative
	}
	up, across := o.y.sub(p.y), o.x.sub(p.x)
	if p.x.same(o.x) {
		square := p.x.mul(p.x)
		up, across = square.add(square).add(square), p.y.add(p.y)
	}
	l := up.mul(across.inv())
	x := l.mul(l).sub(p.x).sub(o.x)
	return spot{x, l.mul(p.x.sub(x)).sub(p.y), true}
}

// text are a point's bytes, so many times 48.
func (p spot) text(parts int) []byte {
	b := make([]byte, 48*parts)
	if !p.is {
		b[0] = 128
		return b
	}
	p.x.a.FillBytes(b[48*parts-48:])
	if parts == 2 {
		p.x.b.FillBytes(b[:48])
	}
	if p.y.great() {
		b[0] += 64
	}
	return b
}

// number is the number of hexadecimal digits.
func number(digits string) *big.Int {
	n, is := new(big.Int).SetString(digits, 16)
	if !is {
		panic(digits)
	}
	return n
}

// doublesOf are a point, and twice each one, up to what a number below r may need.
func doublesOf(p spot) (l []spot) {
	for range r.BitLen() {
		l = append(l, p)
		p = p.add(p)
	}
	return l
}

// doubles1, doubles2 are those of the generators, as they were worked out apart from the
// program.
var (
	doubles1 = doublesOf(spot{num{number(gen1X), new(big.Int)}, num{number(gen1Y), new(big.Int)}, true})
	doubles2 = doublesOf(spot{num{number(gen2XA), number(gen2XB)}, num{number(gen2YA), number(gen2YB)}, true})
)

// multiple is a point so often, of what is twice each one.
func multiple(doubles []spot, k *big.Int) (sum spot) {
	for i := range k.BitLen() {
		if k.Bit(i) == 1 {
			sum = sum.add(doubles[i])
		}
	}
	return sum
}

// memo keeps what was worked out of numbers, as a multiple takes long.
type memo[V any] struct {
	lock sync.Mutex
	of   map[string]V
	work func(k *big.Int) V
}

func (m *memo[V]) tell(k *big.Int) V {
	k = mod(k)
	m.lock.Lock()
	v, is := m.of[k.String()]
	m.lock.Unlock()
	if !is {
		v = m.work(k)
		m.lock.Lock()
		m.of[k.String()] = v
		m.lock.Unlock()
	}
	return v
}

// kept is a memo.
func kept[V any](work func(k *big.Int) V) *memo[V] {
	return &memo[V]{of: map[string]V{}, work: work}
}

// texts1, texts2 are the bytes of multiples of the generators, by the document's words;
// points1, points2 are the points themselves, as the group tells them.
var (
	texts1  = kept(func(k *big.Int) []byte { return multiple(doubles1, k).text(1) })
	texts2  = kept(func(k *big.Int) []byte { return multiple(doubles2, k).text(2) })
	points1 = kept(func(k *big.Int) group.G1 { return group.Mul1(gen1, el(k)) })
	points2 = kept(func(k *big.Int) group.G2 { return group.Mul2(gen2, el(k)) })
)

// The generators: to find them takes long.
var gen1, gen2 = group.Gen1(), group.Gen2()

// textOfPoints are the bytes of multiples of G1's, one behind the other; textOfScalars those
// of scalars.
func textOfPoints(l ...*big.Int) (b []byte) {
	for _, k := range l {
		b = append(b, texts1.tell(k)...)
	}
	return b
}

func textOfScalars(l ...*big.Int) (b []byte) {
	for _, k := range l {
		s := bytesOf(mod(k))
		b = append(b, s[:]...)
	}
	return b
}

// whole is a small number.
func whole(n int64) *big.Int { return big.NewInt(n) }

// wholes are small ones.
func wholes(l ...int64) (ks []*big.Int) {
	for _, n := range l {
		ks = append(ks, whole(n))
	}
	return ks
}

// repeat is one number, so many times.
func repeat(k *big.Int, count int) []*big.Int { return slices.Repeat([]*big.Int{k}, count) }

// mod is the number from 0 to r - 1.
func mod(k *big.Int) *big.Int { return new(big.Int).Mod(k, r) }

// plus is a sum, times a product, less a difference, per a quotient, all by r.
func less(x, y *big.Int) *big.Int { return mod(new(big.Int).Sub(x, y)) }
func per(x, y *big.Int) *big.Int  { return times(x, new(big.Int).ModInverse(mod(y), r)) }

func plus(l ...*big.Int) *big.Int {
	sum := new(big.Int)
	for _, x := range l {
		sum.Add(sum, x)
	}
	return mod(sum)
}

func times(l ...*big.Int) *big.Int {
	product := whole(1)
	for _, x := range l {
		product = mod(product.Mul(product, x))
	}
	return product
}

// minus is r less n.
func minus(n int64) *big.Int { return new(big.Int).Sub(r, whole(n)) }

// raised is x^i, by r.
func raised(x *big.Int, i int) *big.Int { return new(big.Int).Exp(mod(x), whole(int64(i)), r) }

// same tells whether two numbers are, by r.
func same(x, y *big.Int) bool { return less(x, y).Sign() == 0 }

// bytesOf are a number's bytes, which need not be below r.
func bytesOf(k *big.Int) (s api.Scalar) {
	k.FillBytes(s[:])
	return s
}

// numberOf is the number of bytes.
func numberOf(s api.Scalar) *big.Int { return new(big.Int).SetBytes(s[:]) }

// el is the scalar of a number.
func el(k *big.Int) fr.El {
	x, e := fr.From(bytesOf(mod(k)))
	if e != api.OK {
		panic(e)
	}
	return x
}

// els are the scalars of numbers.
func els(l []*big.Int) []fr.El {
	all := make([]fr.El, len(l))
	for i, k := range l {
		all[i] = el(k)
	}
	return all
}

// back is the number of a scalar.
func back(x fr.El) *big.Int { return numberOf(x.Scalar()) }

// backs are the numbers of scalars.
func backs(l []fr.El) (ks []*big.Int) {
	for _, x := range l {
		ks = append(ks, back(x))
	}
	return ks
}

const ways = 5 // how many values several tells

// several are several values of one point: what sums come to it.
func several[E curve.Elem[E]](c *curve.Curve[E], gen, p curve.Point[E]) []curve.Point[E] {
	l := []curve.Point[E]{p, c.Add(c.Mul(p, []uint64{5}), c.Neg(c.Mul(p, []uint64{4})))}
	for _, n := range []uint64{1, 2, 77} {
		other := c.Mul(gen, []uint64{n})
		l = append(l, c.Add(c.Add(p, other), c.Neg(other)))
	}
	return l
}

// otherSetup is a setup of the same points, told by other values.
func otherSetup(s *srs.SRS, way int) *srs.SRS {
	o := &srs.SRS{Tau: several(group.Curve2(), gen2, s.Tau)[way%ways]}
	for i := range s.Powers {
		o.Powers = append(o.Powers, several(group.Curve1(), gen1, s.Powers[i])[(way+i)%ways])
		o.Blinds = append(o.Blinds, several(group.Curve1(), gen1, s.Blinds[i])[(way+i+1)%ways])
	}
	return o
}

// together does things by several at once, as they take long.
func together(count int, do func(i int)) {
	var workers sync.WaitGroup
	for first := range runtime.NumCPU() {
		workers.Go(func() {
			for i := first; i < count; i += runtime.NumCPU() {
				do(i)
			}
		})
	}
	workers.Wait()
}

// numbers makes numbers for tests by a rule, so that every run has the same ones.
type numbers struct{ state uint64 }

func (s *numbers) word() uint64 {
	s.state += 0x9e3779b97f4a7c15
	z := s.state
	z = (z ^ z>>30) * 0xbf58476d1ce4e5b9
	z = (z ^ z>>27) * 0x94d049bb133111eb
	return z ^ z>>31
}

// below is a number from 0 to n - 1.
func (s *numbers) below(n int) int { return int(s.word() % uint64(n)) }

// great is any number from 1 to r - 1.
func (s *numbers) great() *big.Int {
	n := new(big.Int)
	for range 5 {
		n.Lsh(n, 64).Or(n, new(big.Int).SetUint64(s.word()))
	}
	n.Mod(n, minus(1))
	return n.Add(n, whole(1))
}

// big is one from 1 to r - 1: a great one, or one that is small, or nearly r.
func (s *numbers) big() *big.Int {
	switch s.below(6) {
	case 0:
		return whole(1)
	case 1:
		return whole(int64(1 + s.below(300)))
	case 2:
		return minus(int64(1 + s.below(300)))
	}
	return s.great()
}

// list are so many numbers; some are 0.
func (s *numbers) list(count int) (l []*big.Int) {
	for range count {
		if s.below(7) == 0 {
			l = append(l, whole(0))
			continue
		}
		l = append(l, s.big())
	}
	return l
}

// off is one that is not of the domain of n elements.
func (s *numbers) off(n int) *big.Int {
	for {
		if k := s.big(); v(n, k).Sign() != 0 {
			return k
		}
	}
}

// text are so many bytes.
func (s *numbers) text(count int) []byte {
	b := make([]byte, count)
	for i := range b {
		b[i] = byte(s.word())
	}
	return b
}

// what tells where a test is.
func what(l ...any) string { return fmt.Sprint(l...) }
