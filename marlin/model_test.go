package marlin_test

import (
	"bytes"
	"math/big"
	"slices"
	"testing"

	"marlinspike/api"
	"marlinspike/decide"
	"marlinspike/fr"
	"marlinspike/group"
	"marlinspike/keys"
	"marlinspike/marlin"
	"marlinspike/pad"
	"marlinspike/proof"
	"marlinspike/srs"
)

// Setups, keys and proofs, told by what the generators are multiplied by, and what is to be
// told of them by the chapters' words.

// exps are a setup.
type exps struct {
	powers, blinds []*big.Int
	tau            *big.Int
}

// expsOf are those of the setup of two scalars.
func expsOf(t, g *big.Int, n int) exps {
	x := exps{tau: mod(t)}
	for i := range n + 1 {
		x.powers = append(x.powers, raised(t, i))
		x.blinds = append(x.blinds, times(g, raised(t, i)))
	}
	return x
}

// loose are those of no good setup: powers of 7, 11 and 13.
func loose(n int) exps {
	x := exps{tau: raised(whole(13), 30)}
	for i := range n + 1 {
		x.powers = append(x.powers, raised(whole(7), 50*(i+1)))
		x.blinds = append(x.blinds, raised(whole(11), 40*(i+1)))
	}
	return x
}

// degree is its degree.
func (x exps) degree() int { return len(x.powers) - 1 }

// setup are its points, as the group tells them.
func (x exps) setup() *srs.SRS {
	s := &srs.SRS{Tau: points2.tell(x.tau)}
	for _, k := range x.powers {
		s.Powers = append(s.Powers, points1.tell(k))
	}
	for _, k := range x.blinds {
		s.Blinds = append(s.Blinds, points1.tell(k))
	}
	return s
}

// text are its bytes.
func (x exps) text() []byte {
	b := []byte{byte(x.degree() / 256), byte(x.degree() % 256)}
	b = append(b, textOfPoints(x.powers...)...)
	b = append(b, textOfPoints(x.blinds...)...)
	return append(b, texts2.tell(x.tau)...)
}

// commitment is that to a polynomial, blinded by another one.
func (x exps) commitment(p, mask []*big.Int) *big.Int {
	sum := whole(0)
	for i, k := range p {
		sum = plus(sum, times(k, x.powers[i]))
	}
	for i, k := range mask {
		sum = plus(sum, times(k, x.blinds[i]))
	}
	return sum
}

// keyTale is a key: the commitments in the order of its bytes.
type keyTale struct {
	n, x, m, inputs, d int
	blind, tau         *big.Int
	c                  [9]*big.Int
}

// keyTaleOf is that of a shape by a setup.
func keyTaleOf(s pad.Shape, x indexed, o exps) keyTale {
	k := keyTale{n: s.N, x: s.X, m: s.M, inputs: s.Inputs, d: o.degree(), blind: o.blinds[0], tau: o.tau}
	for i, p := range x.nine() {
		k.c[i] = o.commitment(p, nil)
	}
	return k
}

// text are its bytes.
func (k keyTale) text() (b []byte) {
	for i, n := range []int{k.n, k.x, k.m, k.inputs, k.d} {
		b = append(b, whole(int64(n)).FillBytes(make([]byte, []int{4, 4, 4, 2, 2}[i]))...)
	}
	return slices.Concat(b, texts1.tell(k.blind), texts2.tell(k.tau), textOfPoints(k.c[:]...))
}

// numbers are where its numbers stand.
func (k *keyTale) numbers() []*int { return []*int{&k.n, &k.x, &k.m, &k.inputs, &k.d} }

// sizes are those of its numbers that are such.
func (k keyTale) sizes() decide.Sizes { return decide.Sizes{N: k.n, X: k.x, M: k.m} }

// key is it, of points as the group tells them.
func (k keyTale) key() keys.Key {
	o := keys.Key{Z: k.sizes(), Inputs: k.inputs, D: k.d, Blind: points1.tell(k.blind), Tau: points2.tell(k.tau)}
	for i, p := range commitmentsOf(&o) {
		*p = points1.tell(k.c[i])
	}
	return o
}

// commitmentsOf are where a key has its own, in the order of its bytes.
func commitmentsOf(k *keys.Key) (l []*group.G1) {
	for i := range 9 {
		l = append(l, &[]*[3]group.G1{&k.Row, &k.Col, &k.Val}[i/3][i%3])
	}
	return l
}

// isSize tells whether a domain has that size.
func isSize(n int) bool { return n >= 1 && n <= api.MaxDomain && n&(n-1) == 0 }

// fault is what the key's Check has to tell.
func (k keyTale) fault() api.Errno {
	switch {
	case !isSize(k.n) || !isSize(k.x) || !isSize(k.m) || k.n < 2*k.x || k.m < 2:
		return api.ErrSize
	case k.inputs < 1 || k.inputs > k.x || k.d > api.MaxPower:
		return api.ErrArg
	case k.d < 2*k.n || k.d < 6*k.m:
		return api.ErrDegree
	}
	return api.OK
}

// tale is a proof: its points and its scalars, both in the order of its bytes.
type tale struct {
	c [13]*big.Int
	s [19]*big.Int
}

// The places of scalars. Of each matrix there is a Row, a Col and a Val.
const (
	atW = iota
	atA
	atB
	atS
	atT
	atG1
	atH1
	atRow
	atCol   = atRow + 3
	atVal   = atCol + 3
	atG2    = atVal + 3
	atH2    = atG2 + 1
	atBlind = atH2 + 1
)

// text are its bytes.
func (p tale) text() []byte {
	return slices.Concat(textOfPoints(p.c[:11]...), textOfScalars(p.s[:]...), textOfPoints(p.c[11:]...))
}

// pointsOf are where a proof has its points, scalarsOf its scalars, both in order.
func pointsOf(p *proof.Proof) [13]*group.G1 {
	return [13]*group.G1{&p.W, &p.A, &p.B, &p.S, &p.T, &p.G1, &p.G1s, &p.H1, &p.G2, &p.G2s, &p.H2, &p.Wb, &p.Wg}
}

func scalarsOf(p *proof.Proof) [19]*fr.El {
	v := &p.V
	return [19]*fr.El{
		&v.W, &v.A, &v.B, &v.S, &v.T, &v.G1, &v.H1, &v.Row[0], &v.Row[1], &v.Row[2], &v.Col[0], &v.Col[1], &v.Col[2],
		&v.Val[0], &v.Val[1], &v.Val[2], &v.G2, &v.H2, &p.Blind,
	}
}

// names are those of all parts, the points ahead.
var names = []string{
	"W", "A", "B", "S", "T", "G1", "G1s", "H1", "G2", "G2s", "H2", "Wb", "Wg",
	"value W", "value A", "value B", "value S", "value T", "value G1", "value H1", "Row 0", "Row 1", "Row 2", "Col 0", "Col 1", "Col 2",
	"Val 0", "Val 1", "Val 2", "value G2", "value H2", "Blind",
}

// proof is it, of points as the group tells them.
func (p tale) proof() (o proof.Proof) {
	for i, at := range pointsOf(&o) {
		*at = points1.tell(p.c[i])
	}
	for i, at := range scalarsOf(&o) {
		*at = el(p.s[i])
	}
	return o
}

// other is a proof of the same points, told by other values.
func other(p proof.Proof, way int) proof.Proof {
	for i, at := range pointsOf(&p) {
		*at = several(group.Curve1(), gen1, *at)[(way+i)%ways]
	}
	return p
}

// folded is the fold of numbers.
func folded(l []*big.Int, y *big.Int) *big.Int {
	sum := whole(0)
	for i, k := range l {
		sum = plus(sum, times(raised(y, i), k))
	}
	return sum
}

// foldedPoly is that of polynomials.
func foldedPoly(l [][]*big.Int, y *big.Int) (sum []*big.Int) {
	for i, p := range l {
		sum = added(sum, scaled(raised(y, i), p))
	}
	return sum
}

// opened is what is left of a polynomial less what it is worth at z, by Y - z.
func opened(p []*big.Int, z *big.Int) []*big.Int {
	quotient, _ := divided(p, []*big.Int{less(whole(0), z), whole(1)})
	return quotient
}

// task is a circuit, and an assignment that is to satisfy it.
type task struct {
	c api.Circuit
	z []*big.Int
}

// proven is a proof by the chapters' words, with its key, its inputs, and the script.
type proven struct {
	k   keyTale
	in  []*big.Int
	p   tale
	say *speech
}

// provenBy is that of a task, by draws.
func (o exps) provenBy(t *testing.T, x task, d []*big.Int) (w proven) {
	t.Helper()
	s := padded(t, x.c)
	m, z := indexedOf(s), spread(t, s, x.z)
	w.k, w.in = keyTaleOf(s, m, o), x.z[:s.Inputs]
	w.say = speechOf(w.k, w.in)
	one := firstOf(s, z, d)
	var masks [][]*big.Int
	for i, p := range [][]*big.Int{one.w, one.a, one.b, one.s} {
		masks = append(masks, d[3+2*s.N+2*i:5+2*s.N+2*i])
		w.p.c[i] = o.commitment(p, masks[i])
	}
	w.say.first(w.p)
	two, is := m.secondOf(one, w.say.a, w.say.e)
	if !is {
		t.Fatal("it does not satisfy the circuit")
	}
	shifted := higher(two.g, o.degree()-(s.N-2))
	for i, p := range [][]*big.Int{two.t, two.g, shifted, two.h} {
		w.p.c[4+i] = o.commitment(p, nil)
	}
	w.say.second(w.p)
	three := m.thirdOf(w.say.a, w.say.e, w.say.b)
	shiftedToo := higher(three.g, o.degree()-(s.M-2))
	for i, p := range [][]*big.Int{three.g, shiftedToo, three.h} {
		w.p.c[8+i] = o.commitment(p, nil)
	}
	w.say.third(w.p)
	for i, p := range [][]*big.Int{one.w, one.a, one.b, one.s, two.t, two.g, two.h} {
		w.p.s[i] = worth(p, w.say.b)
	}
	nine := m.nine()
	for i, p := range append(nine[:], three.g, three.h) {
		w.p.s[atRow+i] = worth(p, w.say.g)
	}
	w.say.values(w.p)
	mask := foldedPoly(masks, w.say.y)
	w.p.s[atBlind] = worth(mask, w.say.b)
	atB := foldedPoly([][]*big.Int{one.w, one.a, one.b, one.s, two.t, two.g, shifted, two.h}, w.say.y)
	w.p.c[11] = o.commitment(opened(atB, w.say.b), opened(mask, w.say.b))
	atG := foldedPoly(append(nine[:], three.g, shiftedToo, three.h), w.say.y)
	w.p.c[12] = o.commitment(opened(atG, w.say.g), nil)
	w.say.last(w.p)
	return w
}

// question is what Verify is asked, told so.
type question struct {
	k  keyTale
	in []*big.Int
	p  tale
}

func (w proven) question() question { return question{w.k, w.in, w.p} }

// firstSides are both sides of the first equation, secondSides those of the second one.
func (x question) firstSides(s *speech) (left, right *big.Int) {
	l, n := x.p.s, x.k.n
	rows := plus(times(s.e[0], l[atA]), times(s.e[1], l[atB]), times(s.e[2], l[atA], l[atB]))
	all := plus(times(l[atW], v(x.k.x, s.b)), worthOn(x.k.x, x.in, s.b))
	left = less(plus(l[atS], times(u(n, s.a, s.b), rows)), times(l[atT], all))
	return left, plus(times(l[atH1], v(n, s.b)), times(s.b, l[atG1]))
}

func (x question) secondSides(s *speech) (left, right *big.Int) {
	l, n := x.p.s, x.k.n
	denominator := func(i int) *big.Int { return times(less(s.a, l[atRow+i]), less(s.b, l[atCol+i])) }
	d := [3]*big.Int{denominator(0), denominator(1), denominator(2)}
	sum := whole(0)
	for i, others := range [3][2]int{{1, 2}, {0, 2}, {0, 1}} {
		sum = plus(sum, times(v(n, s.a), v(n, s.b), s.e[i], l[atVal+i], d[others[0]], d[others[1]]))
	}
	f := plus(times(s.g, l[atG2]), per(l[atT], whole(int64(x.k.m))))
	return less(sum, times(d[0], d[1], d[2], f)), times(l[atH2], v(x.k.m, s.g))
}

// leftB is what the claim at b leaves but for its W, leftG what that at g does.
func (x question) leftB(s *speech) *big.Int {
	l := x.p.s
	values := []*big.Int{l[atW], l[atA], l[atB], l[atS], l[atT], l[atG1], times(raised(s.b, x.k.d-(x.k.n-2)), l[atG1]), l[atH1]}
	return less(less(folded(x.p.c[:8], s.y), folded(values, s.y)), times(x.k.blind, l[atBlind]))
}

func (x question) leftG(s *speech) *big.Int {
	l := x.p.s
	values := append(slices.Clone(l[atRow:atH2]), times(raised(s.g, x.k.d-(x.k.m-2)), l[atG2]), l[atH2])
	return less(folded(append(slices.Clone(x.k.c[:]), x.p.c[8:11]...), s.y), folded(values, s.y))
}

// four tells of both equations, and of both openings, whether each one holds, and of the
// claims whether they hold together.
func (x question) four(s *speech) (l [4]bool, claims bool) {
	wb, wg := x.p.c[11], x.p.c[12]
	left := [2]*big.Int{plus(x.leftB(s), times(s.b, wb)), plus(x.leftG(s), times(s.g, wg))}
	l = [4]bool{same(x.firstSides(s)), same(x.secondSides(s)), same(left[0], times(x.k.tau, wb)), same(left[1], times(x.k.tau, wg))}
	return l, same(plus(left[0], times(s.x, left[1])), times(x.k.tau, plus(wb, times(s.x, wg))))
}

// verdict is what Verify has to tell.
func (x question) verdict() api.Errno {
	switch {
	case x.k.fault() != api.OK:
		return x.k.fault()
	case len(x.in) != x.k.inputs:
		return api.ErrArg
	case !same(x.in[0], whole(1)):
		return api.ErrReject
	}
	if l, claims := x.four(spoken(x.k, x.in, x.p)); !l[0] || !l[1] || !claims {
		return api.ErrReject
	}
	return api.OK
}

// wantVerdict fails if Verify does not tell of a question what it has to, and that is this.
func wantVerdict(t *testing.T, what string, x question, wanted api.Errno) {
	t.Helper()
	if e := x.verdict(); e != wanted {
		t.Errorf("%s: by the chapter's words it is %v, not %v", what, e, wanted)
	}
	if e := marlin.Verify(x.k.key(), els(x.in), x.p.proof()); e != wanted {
		t.Errorf("%s: Verify: %v, not %v", what, e, wanted)
	}
}

// wantVerdictOfBytes is the same of VerifyBytes.
func wantVerdictOfBytes(t *testing.T, what string, x question, wanted api.Errno) {
	t.Helper()
	if e := marlin.VerifyBytes(x.k.text(), textOfScalars(x.in...), x.p.text()); e != wanted {
		t.Errorf("%s: VerifyBytes: %v, not %v", what, e, wanted)
	}
}

// wantProof fails if a proof has not the bytes of a tale; each part that it has not is
// named.
func wantProof(t *testing.T, what string, p proof.Proof, w tale) {
	t.Helper()
	b, wanted := p.Bytes(), w.text()
	if bytes.Equal(b, wanted) {
		return
	}
	at := 0
	for i := range names {
		part, long := i, 32
		switch {
		case i < 11:
			long = 48
		case i < 30:
			part = i + 2
		default:
			part, long = i-19, 48
		}
		if !bytes.Equal(b[at:at+long], wanted[at:at+long]) {
			t.Errorf("%s: %s is %x, not %x", what, names[part], b[at:at+long], wanted[at:at+long])
		}
		at += long
	}
}

// wantKey fails if a key has not the bytes of a tale.
func wantKey(t *testing.T, what string, b []byte, k keyTale) {
	t.Helper()
	if !bytes.Equal(b, k.text()) {
		t.Errorf("%s: the key is %x, not %x", what, b, k.text())
	}
}

// proveOf is what Prove tells.
func proveOf(t *testing.T, what string, s *srs.SRS, x task, d []*big.Int) proof.Proof {
	t.Helper()
	p, e := marlin.Prove(s, x.c, els(x.z), els(d))
	if e != api.OK {
		t.Fatalf("%s: Prove: %v", what, e)
	}
	return p
}

// refuseProve fails if Prove does not answer this error, and nothing else.
func refuseProve(t *testing.T, what string, s *srs.SRS, c api.Circuit, z, d []fr.El, wanted api.Errno) {
	t.Helper()
	if p, e := marlin.Prove(s, c, z, d); e != wanted || p != (proof.Proof{}) {
		t.Errorf("%s: Prove: %v, not %v; beside it %+v", what, e, wanted, p)
	}
}
