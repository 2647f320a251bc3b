package update_test

import (
	"bytes"
	"math/big"
	"runtime"
	"slices"
	"sync"
	"testing"

	"marlinspike/api"
	"marlinspike/curve"
	"marlinspike/fr"
	"marlinspike/group"
	"marlinspike/points"
	"marlinspike/srs"
	"marlinspike/update"
)

// The chapter's words once more, apart from the program: points are pairs of numbers,
// and those are the library's big ones.

// atX is what a polynomial is worth at X; its coefficients are told the highest first.
func atX(coefficients ...int64) *big.Int {
	sum, x := new(big.Int), new(big.Int).SetUint64(api.X)
	for _, n := range coefficients {
		sum.Mul(sum, x).Add(sum, big.NewInt(n))
	}
	return sum
}

// r is X^4 - X^2 + 1, q is (X - 1)^2 r / 3 + X.
var r, q = func() (r, q *big.Int) {
	r = atX(1, 0, -1, 0, 1)
	q = new(big.Int).Mul(atX(1, -2, 1), r)
	return r, q.Div(q, big.NewInt(3)).Add(q, atX(1, 0))
}()

// num is a + b u by q, where u^2 is -5. Of G1 b is 0.
type num struct{ a, b *big.Int }

// byQ is a number of whole ones.
func byQ(a, b *big.Int) num { return num{a.Mod(a, q), b.Mod(b, q)} }

func (x num) same(y num) bool { return x.a.Cmp(y.a) == 0 && x.b.Cmp(y.b) == 0 }

func (x num) add(y num) num { return byQ(new(big.Int).Add(x.a, y.a), new(big.Int).Add(x.b, y.b)) }

func (x num) sub(y num) num { return byQ(new(big.Int).Sub(x.a, y.a), new(big.Int).Sub(x.b, y.b)) }

func (x num) mul(y num) num {
	a, bb := new(big.Int).Mul(x.a, y.a), new(big.Int).Mul(x.b, y.b)
	ab, ba := new(big.Int).Mul(x.a, y.b), new(big.Int).Mul(x.b, y.a)
	return byQ(a.Sub(a, bb.Mul(bb, big.NewInt(5))), ab.Add(ab, ba))
}

func (x num) inv() num {
	a, b := new(big.Int).Mul(x.a, x.a), new(big.Int).Mul(x.b, x.b)
	norm := a.Add(a, b.Mul(b, big.NewInt(5)))
	per := new(big.Int).ModInverse(norm.Mod(norm, q), q)
	return byQ(new(big.Int).Mul(x.a, per), new(big.Int).Neg(new(big.Int).Mul(x.b, per)))
}

// great tells whether a number is the great one of it and its negative.
func (x num) great() bool {
	n := x.b
	if n.Sign() == 0 {
		n = x.a
	}
	return n.Cmp(new(big.Int).Rsh(q, 1)) > 0
}

// spot is a point of either group, or else, where is is false, the far one.
type spot struct {
	x, y num
	is   bool
}

func (p spot) add(o spot) spot {
	switch {
	case !p.is:
		return o
	case !o.is:
		return p
	case p.x.same(o.x) && !p.y.same(o.y):
		return spot{} // none of these points is its own negative
	}
	up, across := o.y.sub(p.y), o.x.sub(p.x)
	if p.x.same(o.x) {
		square := p.x.mul(p.x)
		up, across = square.add(square).add(square), p.y.add(p.y)
	}
	l := up.mul(across.inv())
	x := l.mul(l).sub(p.x).sub(o.x)
	return spot{x, l.mul(p.x.sub(x)).sub(p.y), true}
}

func (p spot) times(k *big.Int) (sum spot) {
	for i := k.BitLen() - 1; i >= 0; i-- {
		sum = sum.add(sum)
		if k.Bit(i) == 1 {
			sum = sum.add(p)
		}
	}
	return sum
}

// text are a point's bytes, so many times 48.
func (p spot) text(parts int) []byte {
	b := make([]byte, 48*parts)
	if !p.is {
		b[0] = 128
		return b
	}
	p.x.a.FillBytes(b[48*parts-48:])
	if parts == 2 {
		p.x.b.FillBytes(b[:48])
	}
	if p.y.great() {
		b[0] += 64
	}
	return b
}

// number is the number of hexadecimal digits.
func number(digits string) *big.Int {
	n, is := new(big.Int).SetString(digits, 16)
	if !is {
		panic(digits)
	}
	return n
}

// spot1, spot2 are the generators, as they were worked out apart from the program.
func spot1() spot {
	return spot{num{number(gen1X), new(big.Int)}, num{number(gen1Y), new(big.Int)}, true}
}

func spot2() spot {
	return spot{num{number(gen2XA), number(gen2XB)}, num{number(gen2YA), number(gen2YB)}, true}
}

// memo keeps what was worked out of numbers, as a multiple takes long.
type memo[V any] struct {
	lock sync.Mutex
	of   map[string]V
	work func(k *big.Int) V
}

func (m *memo[V]) tell(k *big.Int) V {
	k = mod(k)
	m.lock.Lock()
	defer m.lock.Unlock()
	v, is := m.of[k.String()]
	if !is {
		v = m.work(k)
		m.of[k.String()] = v
	}
	return v
}

// kept is a memo.
func kept[V any](work func(k *big.Int) V) *memo[V] {
	return &memo[V]{of: map[string]V{}, work: work}
}

// texts1, texts2 are the bytes of multiples of the generators, by the chapter's words;
// points1, points2 are the points themselves, as the group tells them.
var (
	texts1  = kept(func(k *big.Int) []byte { return spot1().times(k).text(1) })
	texts2  = kept(func(k *big.Int) []byte { return spot2().times(k).text(2) })
	points1 = kept(func(k *big.Int) group.G1 { return group.Mul1(gen1, el(k)) })
	points2 = kept(func(k *big.Int) group.G2 { return group.Mul2(gen2, el(k)) })
)

func text1(k *big.Int) []byte { return texts1.tell(k) }
func text2(k *big.Int) []byte { return texts2.tell(k) }

// raised is t^i, and as often as g says.
func raised(t, g *big.Int, i int) *big.Int {
	n := new(big.Int).Exp(t, big.NewInt(int64(i)), r)
	return n.Mul(n, g).Mod(n, r)
}

// exps are a setup, told by what the generators are multiplied by.
type exps struct {
	powers, blinds []*big.Int
	tau            *big.Int
}

// expsOf are those of the setup of two scalars.
func expsOf(t, g *big.Int, n int) exps {
	x := exps{tau: t}
	for i := range n + 1 {
		x.powers = append(x.powers, raised(t, whole(1), i))
		x.blinds = append(x.blinds, raised(t, g, i))
	}
	return x
}

// clone is the same once more.
func (x exps) clone() exps { return exps{slices.Clone(x.powers), slices.Clone(x.blinds), x.tau} }

// good tells by the chapter's words whether it is.
func (x exps) good() bool {
	n := len(x.powers) - 1
	if n < 1 || n > api.MaxPower || len(x.blinds) != n+1 {
		return false
	}
	t, g := mod(x.tau), mod(x.blinds[0])
	if t.Sign() == 0 || g.Sign() == 0 {
		return false
	}
	for i := range n + 1 {
		if raised(t, whole(1), i).Cmp(mod(x.powers[i])) != 0 || raised(t, g, i).Cmp(mod(x.blinds[i])) != 0 {
			return false
		}
	}
	return true
}

// text are its bytes.
func (x exps) text() []byte {
	n := len(x.powers) - 1
	b := []byte{byte(n / 256), byte(n % 256)}
	for _, k := range append(slices.Clone(x.powers), x.blinds...) {
		b = append(b, text1(k)...)
	}
	return append(b, text2(x.tau)...)
}

// setup are its points, as the group tells them.
func (x exps) setup() *srs.SRS {
	s := &srs.SRS{Tau: points2.tell(x.tau)}
	for _, k := range x.powers {
		s.Powers = append(s.Powers, points1.tell(k))
	}
	for _, k := range x.blinds {
		s.Blinds = append(s.Blinds, points1.tell(k))
	}
	return s
}

// The generators: to find them takes long.
var gen1, gen2 = group.Gen1(), group.Gen2()

// whole is a small number.
func whole(n int64) *big.Int { return big.NewInt(n) }

// wholes are small ones.
func wholes(l ...int64) (ks []*big.Int) {
	for _, n := range l {
		ks = append(ks, whole(n))
	}
	return ks
}

// mod is the number from 0 to r - 1.
func mod(k *big.Int) *big.Int { return new(big.Int).Mod(k, r) }

// el is the scalar of a number.
func el(k *big.Int) fr.El {
	var b api.Scalar
	mod(k).FillBytes(b[:])
	x, e := fr.From(b)
	if e != api.OK {
		panic(e)
	}
	return x
}

// made is the setup that New tells.
func made(t *testing.T, tau, g *big.Int, n int) *srs.SRS {
	t.Helper()
	s, e := srs.New(el(tau), el(g), n)
	if e != api.OK || s == nil {
		t.Fatalf("New(%v, %v, %d): %v, %v", tau, g, n, s, e)
	}
	return s
}

// want fails if a setup is not that of these multiples.
func want(t *testing.T, what string, s *srs.SRS, x exps) {
	t.Helper()
	if s == nil {
		t.Fatalf("%s: no setup", what)
	}
	if len(s.Powers) != len(x.powers) || len(s.Blinds) != len(x.blinds) {
		t.Fatalf("%s: %d powers and %d blinds", what, len(s.Powers), len(s.Blinds))
	}
	for i, k := range x.powers {
		if b := points.Put1(s.Powers[i]); !bytes.Equal(b[:], text1(k)) {
			t.Errorf("%s: the power %d is %x, not %x", what, i, b, text1(k))
		}
	}
	for i, k := range x.blinds {
		if b := points.Put1(s.Blinds[i]); !bytes.Equal(b[:], text1(k)) {
			t.Errorf("%s: the blind %d is %x, not %x", what, i, b, text1(k))
		}
	}
	if b := points.Put2(s.Tau); !bytes.Equal(b[:], text2(x.tau)) {
		t.Errorf("%s: Tau is %x, not %x", what, b, text2(x.tau))
	}
}

// bytesOf are a setup's bytes.
func bytesOf(t *testing.T, s *srs.SRS) []byte {
	t.Helper()
	b, e := s.Bytes()
	if e != api.OK || b == nil {
		t.Fatalf("Bytes: %x, %v", b, e)
	}
	return b
}

// hop is a step, told by what the generators are multiplied by.
type hop struct{ a, d *big.Int }

// hopsOf are the steps by these scalars, from a secret on.
func hopsOf(t *big.Int, ds ...*big.Int) (l []hop) {
	for _, d := range ds {
		t = mod(new(big.Int).Mul(t, d))
		l = append(l, hop{t, d})
	}
	return l
}

// hopTexts are steps' bytes.
func hopTexts(l []hop) []byte {
	b := []byte{byte(len(l))}
	for _, x := range l {
		b = slices.Concat(b, text1(x.a), text2(x.d))
	}
	return b
}

// steps are steps' points, as the group tells them.
func steps(l []hop) (all []update.Step) {
	for _, x := range l {
		all = append(all, update.Step{A: points1.tell(x.a), D: points2.tell(x.d)})
	}
	return all
}

// leads tells by the chapter's words whether steps are a chain.
func leads(from, to exps, l []hop) bool {
	if !from.good() || !to.good() || len(from.powers) != len(to.powers) || mod(from.blinds[0]).Cmp(mod(to.blinds[0])) != 0 {
		return false
	}
	p := mod(from.powers[1])
	for _, x := range l {
		if mod(x.d).Sign() == 0 || mod(new(big.Int).Mul(p, x.d)).Cmp(mod(x.a)) != 0 {
			return false
		}
		p = mod(x.a)
	}
	return p.Cmp(mod(to.powers[1])) == 0
}

// wantSteps fails if steps are not those of these multiples.
func wantSteps(t *testing.T, what string, l []update.Step, hops []hop) {
	t.Helper()
	if len(l) != len(hops) {
		t.Fatalf("%s: %d steps, not %d", what, len(l), len(hops))
	}
	for i, x := range hops {
		if b := points.Put1(l[i].A); !bytes.Equal(b[:], text1(x.a)) {
			t.Errorf("%s: the A of %d is %x, not %x", what, i, b, text1(x.a))
		}
		if b := points.Put2(l[i].D); !bytes.Equal(b[:], text2(x.d)) {
			t.Errorf("%s: the D of %d is %x, not %x", what, i, b, text2(x.d))
		}
	}
}

// updated is what Update tells.
func updated(t *testing.T, s *srs.SRS, d *big.Int) (*srs.SRS, update.Step) {
	t.Helper()
	o, step, e := update.Update(s, el(d))
	if e != api.OK || o == nil {
		t.Fatalf("Update by %v: %v, %v", d, o, e)
	}
	return o, step
}

// stepsBytes are what Bytes tells.
func stepsBytes(t *testing.T, l []update.Step) []byte {
	t.Helper()
	b, e := update.Bytes(l)
	if e != api.OK || len(b) != 1+144*len(l) {
		t.Fatalf("Bytes of %d steps: %x, %v", len(l), b, e)
	}
	return b
}

// got are the steps of bytes.
func got(t *testing.T, b []byte) []update.Step {
	t.Helper()
	l, e := update.Get(b)
	if e != api.OK {
		t.Fatalf("Get of %d bytes: %v, %v", len(b), l, e)
	}
	return l
}

// refuse fails if Get does not answer this error of bytes.
func refuse(t *testing.T, what string, b []byte, e api.Errno) {
	t.Helper()
	if l, wrong := update.Get(b); len(l) > 0 || wrong != e {
		t.Errorf("%s: %v, %v, not %v", what, l, wrong, e)
	}
}

// question asks whether steps lead from a setup to another one.
type question struct {
	what     string
	from, to *srs.SRS
	steps    []update.Step
	e        api.Errno
}

// verdict is what Chain must tell.
func verdict(from, to exps, l []hop) api.Errno {
	if leads(from, to, l) {
		return api.OK
	}
	return api.ErrReject
}

// ask is the question about those of these multiples.
func ask(what string, from, to exps, l []hop) question {
	return question{what, from.setup(), to.setup(), steps(l), verdict(from, to, l)}
}

// link is what Chain may be asked, told by its multiples.
type link struct {
	what     string
	from, to exps
	hops     []hop
}

// some fails if not just so many of the answers are to be OK.
func some(t *testing.T, l []question, chains int) {
	t.Helper()
	for _, x := range l {
		if x.e == api.OK {
			chains--
		}
	}
	if chains != 0 {
		t.Errorf("%d more must be chains", chains)
	}
}

// together does things by several at once, as they take long.
func together(count int, do func(i int)) {
	var workers sync.WaitGroup
	for first := range runtime.NumCPU() {
		workers.Go(func() {
			for i := first; i < count; i += runtime.NumCPU() {
				do(i)
			}
		})
	}
	workers.Wait()
}

// wantAnswers fails if one of the answers is another one.
func wantAnswers(t *testing.T, l []question) {
	t.Helper()
	answers := make([]api.Errno, len(l))
	together(len(l), func(i int) { answers[i] = update.Chain(l[i].from, l[i].to, l[i].steps) })
	for i, x := range l {
		if answers[i] != x.e {
			t.Errorf("%s: %v, not %v", x.what, answers[i], x.e)
		}
	}
}

// several are several values of one point: what sums come to it.
func several[E curve.Elem[E]](c *curve.Curve[E], gen, p curve.Point[E]) []curve.Point[E] {
	l := []curve.Point[E]{p, c.Add(c.Mul(p, []uint64{5}), c.Neg(c.Mul(p, []uint64{4})))}
	for _, n := range []uint64{1, 2, 77} {
		other := c.Mul(gen, []uint64{n})
		l = append(l, c.Add(c.Add(p, other), c.Neg(other)))
	}
	return l
}

// other is a setup of the same points, told by other values, of way to way others.
func other(s *srs.SRS, way int) *srs.SRS {
	o := &srs.SRS{Tau: several(group.Curve2(), gen2, s.Tau)[way]}
	for _, p := range s.Powers {
		o.Powers = append(o.Powers, several(group.Curve1(), gen1, p)[way])
	}
	for _, p := range s.Blinds {
		o.Blinds = append(o.Blinds, several(group.Curve1(), gen1, p)[way])
	}
	return o
}

const ways = 5 // how many values several tells

// numbers makes numbers for tests by a rule, so that every run has the same ones.
type numbers struct{ state uint64 }

func (s *numbers) word() uint64 {
	s.state += 0x9e3779b97f4a7c15
	z := s.state
	z = (z ^ z>>30) * 0xbf58476d1ce4e5b9
	z = (z ^ z>>27) * 0x94d049bb133111eb
	return z ^ z>>31
}

// below is a number from 0 to n - 1.
func (s *numbers) below(n int) int { return int(s.word() % uint64(n)) }

// big is one from 1 to r - 1.
func (s *numbers) big() *big.Int {
	n := new(big.Int)
	for range 5 {
		n.Lsh(n, 64).Or(n, new(big.Int).SetUint64(s.word()))
	}
	n.Mod(n, new(big.Int).Sub(r, whole(1)))
	return n.Add(n, whole(1))
}
