package batch_test

import (
	"bytes"
	"math/big"
	"runtime"
	"slices"
	"sync"
	"testing"

	"marlinspike/api"
	"marlinspike/batch"
	"marlinspike/commit"
	"marlinspike/fq"
	"marlinspike/fr"
	"marlinspike/group"
	"marlinspike/open"
	"marlinspike/points"
	"marlinspike/srs"
)

// The chapter's words once more, apart from the program: points are pairs of numbers,
// and those are the library's big ones.

// atX is what a polynomial is worth at X; its coefficients are told the highest first.
func atX(coefficients ...int64) *big.Int {
	sum, x := new(big.Int), new(big.Int).SetUint64(api.X)
	for _, n := range coefficients {
		sum.Mul(sum, x).Add(sum, big.NewInt(n))
	}
	return sum
}

// r is X^4 - X^2 + 1, q is (X - 1)^2 r / 3 + X.
var r, q = func() (r, q *big.Int) {
	r = atX(1, 0, -1, 0, 1)
	q = new(big.Int).Mul(atX(1, -2, 1), r)
	return r, q.Div(q, big.NewInt(3)).Add(q, atX(1, 0))
}()

// spot is a point of G1, or else, where is is false, the far one.
type spot struct {
	x, y *big.Int
	is   bool
}

func (p spot) add(o spot) spot {
	switch {
	case !p.is:
		return o
	case !o.is:
		return p
	case p.x.Cmp(o.x) == 0 && p.y.Cmp(o.y) != 0:
		return spot{} // none of these points is its own negative
	}
	up, across := new(big.Int).Sub(o.y, p.y), new(big.Int).Sub(o.x, p.x)
	if across.Sign() == 0 {
		up.Mul(p.x, p.x).Mul(up, whole(3))
		across.Add(p.y, p.y)
	}
	l := up.Mul(up, across.ModInverse(across.Mod(across, q), q))
	x := new(big.Int).Mul(l, l)
	x.Sub(x, p.x).Sub(x, o.x).Mod(x, q)
	y := new(big.Int).Sub(p.x, x)
	y.Mul(y, l).Sub(y, p.y).Mod(y, q)
	return spot{x, y, true}
}

// text are a point's bytes.
func (p spot) text() []byte {
	b := make([]byte, 48)
	if !p.is {
		b[0] = 128
		return b
	}
	p.x.FillBytes(b)
	if p.y.Cmp(new(big.Int).Rsh(q, 1)) > 0 {
		b[0] += 64
	}
	return b
}

// number is the number of hexadecimal digits.
func number(digits string) *big.Int {
	n, is := new(big.Int).SetString(digits, 16)
	if !is {
		panic(digits)
	}
	return n
}

// doubles are the generator, as it was worked out apart from the program, and twice each
// one, up to what a number below r may need.
var doubles = func() (l []spot) {
	p := spot{number(genX), number(genY), true}
	for range r.BitLen() {
		l = append(l, p)
		p = p.add(p)
	}
	return l
}()

// memo keeps what was worked out of numbers, as a multiple takes long.
type memo[V any] struct {
	lock sync.Mutex
	of   map[string]V
	work func(k *big.Int) V
}

func (m *memo[V]) tell(k *big.Int) V {
	k = mod(k)
	m.lock.Lock()
	v, is := m.of[k.String()]
	m.lock.Unlock()
	if !is {
		v = m.work(k) // several at once may work out the same
		m.lock.Lock()
		m.of[k.String()] = v
		m.lock.Unlock()
	}
	return v
}

// kept is a memo.
func kept[V any](work func(k *big.Int) V) *memo[V] {
	return &memo[V]{of: map[string]V{}, work: work}
}

// texts are the bytes of multiples of the generator, by the chapter's words; told and
// told2 are the points themselves, as the groups tell them.
var (
	texts = kept(func(k *big.Int) []byte {
		var sum spot
		for i := range k.BitLen() {
			if k.Bit(i) == 1 {
				sum = sum.add(doubles[i])
			}
		}
		return sum.text()
	})
	told  = kept(func(k *big.Int) group.G1 { return group.Mul1(gen, el(k)) })
	told2 = kept(func(k *big.Int) group.G2 { return group.Mul2(gen2, el(k)) })
)

// gen, gen2 are the generators: to find them takes long.
var gen, gen2 = group.Gen1(), group.Gen2()

// whole is a small number.
func whole(n int64) *big.Int { return big.NewInt(n) }

// wholes are small ones.
func wholes(l ...int64) (ks []*big.Int) {
	for _, n := range l {
		ks = append(ks, whole(n))
	}
	return ks
}

// zeros are n of them.
func zeros(n int) []*big.Int { return wholes(make([]int64, n)...) }

// mod is the number from 0 to r - 1.
func mod(k *big.Int) *big.Int { return new(big.Int).Mod(k, r) }

// plus is a sum, times a product, both by r.
func plus(x, y *big.Int) *big.Int  { return mod(new(big.Int).Add(x, y)) }
func times(x, y *big.Int) *big.Int { return mod(new(big.Int).Mul(x, y)) }

// minus is r less n.
func minus(n int64) *big.Int { return new(big.Int).Sub(r, whole(n)) }

// raised is t^i, by r.
func raised(t *big.Int, i int) *big.Int {
	return new(big.Int).Exp(mod(t), big.NewInt(int64(i)), r)
}

// raisedBy are a number's powers by step, twice that, ..
func raisedBy(base int64, step, count int) (l []*big.Int) {
	for i := range count {
		l = append(l, raised(whole(base), step*(i+1)))
	}
	return l
}

// worth is that of a polynomial at a place, by definition.
func worth(p []*big.Int, z *big.Int) *big.Int {
	sum := new(big.Int)
	for i, x := range p {
		sum = plus(sum, times(x, raised(z, i)))
	}
	return sum
}

// count is how many scalars a polynomial has in form.
func count(p []*big.Int) int {
	n := len(p)
	for n > 0 && mod(p[n-1]).Sign() == 0 {
		n--
	}
	return n
}

// longer is a list with n zeros behind it.
func longer(p []*big.Int, n int) []*big.Int { return slices.Concat(p, zeros(n)) }

// el is the scalar of a number.
func el(k *big.Int) fr.El {
	var b api.Scalar
	mod(k).FillBytes(b[:])
	x, e := fr.From(b)
	if e != api.OK {
		panic(e)
	}
	return x
}

// els are the scalars of numbers.
func els(l []*big.Int) []fr.El {
	all := make([]fr.El, len(l))
	for i, k := range l {
		all[i] = el(k)
	}
	return all
}

// back is the number of a scalar.
func back(x fr.El) *big.Int {
	s := x.Scalar()
	return new(big.Int).SetBytes(s[:])
}

// backs are the numbers of scalars.
func backs(l []fr.El) (ks []*big.Int) {
	for _, x := range l {
		ks = append(ks, back(x))
	}
	return ks
}

// all are the points of these multiples of the generator.
func all(l []*big.Int) []group.G1 {
	ps := make([]group.G1, len(l))
	for i, k := range l {
		ps[i] = told.tell(k)
	}
	return ps
}

// exps are a setup, told by what the generators are multiplied by.
type exps struct {
	powers, blinds []*big.Int
	tau            *big.Int
}

// expsOf are those of the setup of two scalars.
func expsOf(t, g *big.Int, n int) exps {
	x := exps{tau: mod(t)}
	for i := range n + 1 {
		x.powers = append(x.powers, raised(t, i))
		x.blinds = append(x.blinds, times(g, raised(t, i)))
	}
	return x
}

// setup are its points, as the groups tell them.
func (x exps) setup() *srs.SRS {
	return &srs.SRS{Powers: all(x.powers), Blinds: all(x.blinds), Tau: told2.tell(x.tau)}
}

// commitment is what the generator is multiplied by in it.
func (x exps) commitment(p, b []*big.Int) *big.Int {
	sum := new(big.Int)
	for i := range count(p) {
		sum = plus(sum, times(p[i], x.powers[i]))
	}
	for i := range count(b) {
		sum = plus(sum, times(b[i], x.blinds[i]))
	}
	return sum
}

// quotient is that of a polynomial less what it is worth at z, by Z - z, from the highest
// scalar down. There is no rest, or else a test has gone wrong.
func quotient(p []*big.Int, z *big.Int) []*big.Int {
	left := slices.Clone(p[:count(p)])
	if len(left) == 0 {
		return nil
	}
	left[0] = plus(left[0], new(big.Int).Neg(worth(p, z)))
	often := zeros(len(left) - 1)
	for i := len(left) - 1; i > 0; i-- {
		often[i-1] = left[i]
		left[i-1] = plus(left[i-1], times(left[i], z))
	}
	if left[0].Sign() != 0 {
		panic("a rest")
	}
	return often
}

// claim is one, told by what the generator is multiplied by.
type claim struct{ c, z, v, b, w *big.Int }

// opening is that of two polynomials at z, of the commitment to both, by definition.
func (x exps) opening(p, b []*big.Int, z *big.Int) claim {
	return claim{x.commitment(p, b), z, worth(p, z), worth(b, z), x.commitment(quotient(p, z), quotient(b, z))}
}

// left is what a claim's opening leaves of its commitment.
func (x exps) left(l claim) *big.Int {
	tells := plus(times(l.v, x.powers[0]), times(l.b, x.blinds[0]))
	return plus(new(big.Int).Sub(l.c, tells), times(l.z, l.w))
}

// held is the same opening, of what it holds of.
func (x exps) held(l claim) claim {
	l.c = whole(0)
	l.c = plus(times(l.w, x.tau), new(big.Int).Neg(x.left(l)))
	return l
}

// folded is the fold of a part of each claim.
func folded(l []claim, x *big.Int, part func(claim) *big.Int) *big.Int {
	sum := new(big.Int)
	for i, a := range l {
		sum = plus(sum, times(raised(x, i), part(a)))
	}
	return sum
}

// folds are those of what claims' openings leave, and of their Ws.
func (x exps) folds(l []claim, by *big.Int) (left, w *big.Int) {
	return folded(l, by, x.left), folded(l, by, func(a claim) *big.Int { return a.w })
}

// hold tells whether claims hold together.
func (x exps) hold(l []claim, by *big.Int) bool {
	left, w := x.folds(l, by)
	return left.Cmp(times(w, x.tau)) == 0
}

// equal is the same by two scalars, by the equation of what follows.
func equal(t, g *big.Int, l []claim, by *big.Int) bool {
	sum := folded(l, by, func(a claim) *big.Int {
		less := plus(plus(a.v, times(g, a.b)), times(a.w, new(big.Int).Sub(t, a.z)))
		return plus(a.c, new(big.Int).Neg(less))
	})
	return sum.Sign() == 0
}

// claim is the same one, as the program has it.
func (l claim) claim() batch.Claim {
	return batch.Claim{C: told.tell(l.c), Z: el(l.z), O: open.Opening{V: el(l.v), B: el(l.b), W: told.tell(l.w)}}
}

// claims are several.
func claims(l []claim) []batch.Claim {
	all := make([]batch.Claim, len(l))
	for i, a := range l {
		all[i] = a.claim()
	}
	return all
}

// made is the setup that srs tells.
func made(t *testing.T, tau, g *big.Int, n int) *srs.SRS {
	t.Helper()
	s, e := srs.New(el(tau), el(g), n)
	if e != api.OK || s == nil {
		t.Fatalf("New(%v, %v, %d): %v, %v", tau, g, n, s, e)
	}
	return s
}

// committed is what commit tells.
func committed(t *testing.T, what string, s *srs.SRS, p, b []fr.El) group.G1 {
	t.Helper()
	c, e := commit.Commit(s, p, b)
	if e != api.OK {
		t.Errorf("%s: the commitment: %v", what, e)
	}
	return c
}

// opened is what Open tells.
func opened(t *testing.T, what string, s *srs.SRS, p, b []fr.El, z fr.El) open.Opening {
	t.Helper()
	o, e := open.Open(s, p, b, z)
	if e != api.OK {
		t.Errorf("%s: %v", what, e)
	}
	return o
}

// claimed is the claim of two polynomials at a place, as commit and open tell it.
func claimed(t *testing.T, what string, s *srs.SRS, p, b []*big.Int, z *big.Int) batch.Claim {
	t.Helper()
	return batch.Claim{C: committed(t, what, s, els(p), els(b)), Z: el(z), O: opened(t, what, s, els(p), els(b), el(z))}
}

// joined is what Join tells.
func joined(t *testing.T, what string, z fr.El, cs []group.G1, os []open.Opening, x fr.El) batch.Claim {
	t.Helper()
	l, e := batch.Join(z, cs, os, x)
	if e != api.OK {
		t.Errorf("%s: %v", what, e)
	}
	return l
}

// parted are the commitments and the openings of claims.
func parted(l []batch.Claim) (cs []group.G1, os []open.Opening) {
	for _, a := range l {
		cs, os = append(cs, a.C), append(os, a.O)
	}
	return cs, os
}

// want fails if a point is not so many times the generator.
func want(t *testing.T, what string, p group.G1, k *big.Int) {
	t.Helper()
	if b := points.Put1(p); !bytes.Equal(b[:], texts.tell(k)) {
		t.Errorf("%s: it is %x, not %x", what, b, texts.tell(k))
	}
}

// wantSame fails if two points are not the same.
func wantSame(t *testing.T, what string, p, o group.G1) {
	t.Helper()
	if a, b := points.Put1(p), points.Put1(o); a != b || !group.Curve1().Same(p, o) {
		t.Errorf("%s: it is %x, not %x", what, a, b)
	}
}

// wantEl fails if a scalar is not that of a number.
func wantEl(t *testing.T, what string, x fr.El, k *big.Int) {
	t.Helper()
	if x != el(k) {
		t.Errorf("%s: it is %v, not %v", what, back(x), mod(k))
	}
}

// wantClaim fails if a claim is not this one.
func wantClaim(t *testing.T, what string, l batch.Claim, wanted claim) {
	t.Helper()
	want(t, what+": C", l.C, wanted.c)
	wantEl(t, what+": Z", l.Z, wanted.z)
	wantEl(t, what+": V", l.O.V, wanted.v)
	wantEl(t, what+": B", l.O.B, wanted.b)
	want(t, what+": W", l.O.W, wanted.w)
}

// wantAlike fails if two claims are not the same.
func wantAlike(t *testing.T, what string, l, other batch.Claim) {
	t.Helper()
	wantSame(t, what+": C", l.C, other.C)
	wantEl(t, what+": Z", l.Z, back(other.Z))
	wantEl(t, what+": V", l.O.V, back(other.O.V))
	wantEl(t, what+": B", l.O.B, back(other.O.B))
	wantSame(t, what+": W", l.O.W, other.O.W)
}

// refuse fails if Check does not answer this error, and false.
func refuse(t *testing.T, what string, s *srs.SRS, l []batch.Claim, x fr.El, e api.Errno) {
	t.Helper()
	if is, wrong := batch.Check(s, l, x); wrong != e || is {
		t.Errorf("%s: %v, %v, not %v", what, is, wrong, e)
	}
}

// refuseJoin is the same of Join, which has one error alone.
func refuseJoin(t *testing.T, what string, z fr.El, cs []group.G1, os []open.Opening, x fr.El) {
	t.Helper()
	if l, wrong := batch.Join(z, cs, os, x); wrong != api.ErrArg || l != (batch.Claim{}) {
		t.Errorf("%s: %v, %v", what, l, wrong)
	}
}

// question is one that Check is asked, and the answer.
type question struct {
	what string
	s    *srs.SRS
	l    []batch.Claim
	x    fr.El
	is   bool
}

// ask is a question about multiples of the generators, which the numbers answer.
func ask(what string, x exps, l []claim, by *big.Int) question {
	return question{what, x.setup(), claims(l), el(by), x.hold(l, by)}
}

// wantAnswers asks them, several at once.
func wantAnswers(t *testing.T, l []question) {
	t.Helper()
	together(len(l), func(i int) {
		a := l[i]
		if is, e := batch.Check(a.s, a.l, a.x); is != a.is || e != api.OK {
			t.Errorf("%s: %v, %v, not %v", a.what, is, e, a.is)
		}
	})
}

// hold fails if not just so many of some questions are answered by yes.
func hold(t *testing.T, l []question, wanted int) {
	t.Helper()
	n := 0
	for _, x := range l {
		if x.is {
			n++
		}
	}
	if n != wanted {
		t.Errorf("%d of %d hold, not %d", n, len(l), wanted)
	}
}

// outside is a point of the curve that is not of the group: it has the order 6.
func outside() group.G1 {
	p, e := group.Curve1().Of(fq.Of(2), fq.Of(3))
	if e != api.OK {
		panic(e)
	}
	return p
}

const ways = 5 // how many values several tells

// several are several values of one point: what sums come to it.
func several(p group.G1) []group.G1 {
	c := group.Curve1()
	l := []group.G1{p, c.Add(c.Mul(p, []uint64{5}), c.Neg(c.Mul(p, []uint64{4})))}
	for _, n := range []uint64{1, 2, 77} {
		other := c.Mul(gen, []uint64{n})
		l = append(l, c.Add(c.Add(p, other), c.Neg(other)))
	}
	return l
}

// others are the same points, told by other values.
func others(ps []group.G1, way int) (l []group.G1) {
	for i, p := range ps {
		l = append(l, several(p)[(way+i)%ways])
	}
	return l
}

// otherClaims are the same claims, of points that are told by other values.
func otherClaims(l []batch.Claim, way int) (all []batch.Claim) {
	for i, a := range l {
		a.C, a.O.W = several(a.C)[(way+i)%ways], several(a.O.W)[(way+2*i+1)%ways]
		all = append(all, a)
	}
	return all
}

// other is a setup of the same points, told by other values.
func other(s *srs.SRS, way int) *srs.SRS {
	return &srs.SRS{Powers: others(s.Powers, way), Blinds: others(s.Blinds, way+1), Tau: other2(s.Tau, way)}
}

// other2 is a point of G2, told by another value.
func other2(p group.G2, way int) group.G2 {
	c := group.Curve2()
	behind := c.Mul(gen2, []uint64{uint64(3 + way)})
	return c.Add(c.Add(p, behind), c.Neg(behind))
}

// cut is a setup of a setup's first points.
func cut(s *srs.SRS, powers, blinds int) *srs.SRS {
	return &srs.SRS{Powers: s.Powers[:powers], Blinds: s.Blinds[:blinds], Tau: s.Tau}
}

// together does things by several at once, as they take long.
func together(count int, do func(i int)) {
	var workers sync.WaitGroup
	for first := range runtime.NumCPU() {
		workers.Go(func() {
			for i := first; i < count; i += runtime.NumCPU() {
				do(i)
			}
		})
	}
	workers.Wait()
}

// numbers makes numbers for tests by a rule, so that every run has the same ones.
type numbers struct{ state uint64 }

func (s *numbers) word() uint64 {
	s.state += 0x9e3779b97f4a7c15
	z := s.state
	z = (z ^ z>>30) * 0xbf58476d1ce4e5b9
	z = (z ^ z>>27) * 0x94d049bb133111eb
	return z ^ z>>31
}

// below is a number from 0 to n - 1.
func (s *numbers) below(n int) int { return int(s.word() % uint64(n)) }

// big is one from 1 to r - 1.
func (s *numbers) big() *big.Int {
	n := new(big.Int)
	for range 5 {
		n.Lsh(n, 64).Or(n, new(big.Int).SetUint64(s.word()))
	}
	n.Mod(n, minus(1))
	return n.Add(n, whole(1))
}

// bigs are n of them.
func (s *numbers) bigs(n int) (l []*big.Int) {
	for range n {
		l = append(l, s.big())
	}
	return l
}

// scalars are some numbers that are not 0.
func scalars() []*big.Int {
	s := numbers{state: 1}
	l := append(wholes(1, 2, 3, 255, 256, 257, 1<<32), minus(1), minus(2), minus(256))
	for _, bits := range []uint{64, 248, 252} {
		l = append(l, new(big.Int).Lsh(whole(1), bits))
	}
	return append(l, new(big.Int).Rsh(r, 1), s.big(), s.big())
}

// some are polynomials of up to so many scalars, not all of them in form: of none and of
// small numbers, with zeros at either end and between, and of others.
func some(most int) (l [][]*big.Int) {
	s := numbers{state: 5}
	for _, p := range [][]*big.Int{
		nil, {}, zeros(1), zeros(2), zeros(7), wholes(1), wholes(-1), wholes(5), wholes(5, 0, 0, 0, 0, 0, 0, 0, 0),
		wholes(0, 1), wholes(1, 1), wholes(1, -1, 0), wholes(1, 0, 1), wholes(0, 0, 1), wholes(0, 0, 0, 4, 0, 0), wholes(1, 2, 3, 4),
		wholes(-1, 0, 0, 0, 0, 1), s.bigs(1), s.bigs(2), longer(s.bigs(2), 9), s.bigs(3), s.bigs(4), longer(s.bigs(5), 1), s.bigs(6), s.bigs(7),
	} {
		if count(p) <= most {
			l = append(l, p)
		}
	}
	return append(l, s.bigs(most), longer(s.bigs(most), 1), longer(s.bigs(most), most+3))
}
