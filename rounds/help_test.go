package rounds_test

import (
	"fmt"
	"math/big"
	"slices"
	"testing"

	"marlinspike/api"
	"marlinspike/fr"
	"marlinspike/index"
	"marlinspike/pad"
	"marlinspike/rounds"
)

// The chapter's words once more, apart from the program: numbers are the library's big
// ones, polynomials are lists of them, and all that is done with them goes scalar by
// scalar.

// r is X^4 - X^2 + 1.
var r = func() *big.Int {
	square := new(big.Int).SetUint64(api.X)
	square.Mul(square, square)
	n := new(big.Int).Mul(square, square)
	return n.Sub(n, square).Add(n, big.NewInt(1))
}()

// whole is a small number.
func whole(n int64) *big.Int { return big.NewInt(n) }

// wholes are small ones.
func wholes(l ...int64) (ks []*big.Int) {
	for _, n := range l {
		ks = append(ks, whole(n))
	}
	return ks
}

// mod is the number from 0 to r - 1.
func mod(k *big.Int) *big.Int { return new(big.Int).Mod(k, r) }

// plus is a sum, times a product, less a difference, per a quotient, all by r.
func less(x, y *big.Int) *big.Int { return mod(new(big.Int).Sub(x, y)) }
func per(x, y *big.Int) *big.Int  { return times(x, new(big.Int).ModInverse(mod(y), r)) }

func plus(l ...*big.Int) *big.Int {
	sum := new(big.Int)
	for _, x := range l {
		sum.Add(sum, x)
	}
	return mod(sum)
}

func times(l ...*big.Int) *big.Int {
	product := whole(1)
	for _, x := range l {
		product = mod(product.Mul(product, x))
	}
	return product
}

// minus is r less n.
func minus(n int64) *big.Int { return new(big.Int).Sub(r, whole(n)) }

// raised is x^i, by r.
func raised(x *big.Int, i int) *big.Int { return new(big.Int).Exp(x, whole(int64(i)), r) }

// same tells whether two numbers are, by r.
func same(x, y *big.Int) bool { return less(x, y).Sign() == 0 }

// bytesOf are a number's bytes, which need not be below r.
func bytesOf(k *big.Int) (s api.Scalar) {
	k.FillBytes(s[:])
	return s
}

// numberOf is the number of bytes.
func numberOf(s api.Scalar) *big.Int { return new(big.Int).SetBytes(s[:]) }

// el is the scalar of a number.
func el(k *big.Int) fr.El {
	x, e := fr.From(bytesOf(mod(k)))
	if e != api.OK {
		panic(e)
	}
	return x
}

// els are the scalars of numbers.
func els(l []*big.Int) []fr.El {
	all := make([]fr.El, len(l))
	for i, k := range l {
		all[i] = el(k)
	}
	return all
}

// back is the number of a scalar.
func back(x fr.El) *big.Int { return numberOf(x.Scalar()) }

// backs are the numbers of scalars.
func backs(l []fr.El) (ks []*big.Int) {
	for _, x := range l {
		ks = append(ks, back(x))
	}
	return ks
}

// three are the scalars of three numbers.
func three(e [3]*big.Int) [3]fr.El { return [3]fr.El(els(e[:])) }

// nonSquare is the least number from 2 on that is no square by r.
var nonSquare = func() *big.Int {
	half := new(big.Int).Rsh(r, 1)
	for n := int64(2); ; n++ {
		if new(big.Int).Exp(whole(n), half, r).Cmp(whole(1)) != 0 {
			return whole(n)
		}
	}
}()

// elementsOf are those of the domain of n, in order.
func elementsOf(n int) []*big.Int {
	exponent := new(big.Int).Div(minus(1), whole(int64(n)))
	g := new(big.Int).Exp(nonSquare, exponent, r)
	l := []*big.Int{whole(1)}
	for len(l) < n {
		l = append(l, times(l[len(l)-1], g))
	}
	return l
}

// v is z^n - 1.
func v(n int, z *big.Int) *big.Int { return less(raised(z, n), whole(1)) }

// u is the quotient of differences; of two alike n y^(n - 1).
func u(n int, y, z *big.Int) *big.Int {
	if same(y, z) {
		return times(whole(int64(n)), raised(y, n-1))
	}
	return per(less(v(n, y), v(n, z)), less(y, z))
}

// inForm is a polynomial without the zeros at its end.
func inForm(p []*big.Int) []*big.Int {
	for len(p) > 0 && p[len(p)-1].Sign() == 0 {
		p = p[:len(p)-1]
	}
	return p
}

// worth is what a polynomial is at z; many zeros between go by one power.
func worth(p []*big.Int, z *big.Int) *big.Int {
	sum, gap := whole(0), 0
	for _, x := range slices.Backward(p) {
		if gap++; x.Sign() == 0 {
			continue
		}
		if gap == 1 {
			sum = mod(sum.Mul(sum, z).Add(sum, x))
		} else {
			sum = plus(times(sum, raised(z, gap)), x)
		}
		gap = 0
	}
	return times(sum, raised(z, gap))
}

// added are polynomials together, scaled each scalar times k, multiplied a product.
func added(ps ...[]*big.Int) (sum []*big.Int) {
	for _, p := range ps {
		for i, x := range p {
			if i == len(sum) {
				sum = append(sum, whole(0))
			}
			sum[i] = plus(sum[i], x)
		}
	}
	return inForm(sum)
}

func scaled(k *big.Int, p []*big.Int) (l []*big.Int) {
	for _, x := range p {
		l = append(l, times(k, x))
	}
	return inForm(l)
}

func multiplied(ps ...[]*big.Int) []*big.Int {
	product := wholes(1)
	for _, p := range ps {
		var next []*big.Int
		for range len(product) + len(p) {
			next = append(next, whole(0))
		}
		for i, x := range product {
			for j, y := range p {
				next[i+j].Add(next[i+j], times(x, y))
			}
		}
		product = scaled(whole(1), next)
	}
	return product
}

// vanishing is Y^n - 1.
func vanishing(n int) []*big.Int {
	p := wholes(-1)
	for range n - 1 {
		p = append(p, whole(0))
	}
	return append(p, whole(1))
}

// divided are quotient and rest by another polynomial whose highest scalar is 1 or -1:
// what stands highest goes away, over and over.
func divided(p, q []*big.Int) (quotient, rest []*big.Int) {
	for _, x := range p {
		rest = append(rest, mod(x))
	}
	degree := len(q) - 1
	for i := len(p) - 1; i >= degree; i-- {
		x := times(rest[i], q[degree])
		quotient = append(quotient, x)
		for j, y := range q {
			rest[i-degree+j] = less(rest[i-degree+j], times(x, y))
		}
	}
	slices.Reverse(quotient)
	return inForm(quotient), inForm(rest)
}

// through is the polynomial that is worth values on a domain.
func through(k, values []*big.Int) (p []*big.Int) {
	m := len(k)
	for i := range m {
		sum := whole(0)
		for j, y := range values {
			if y.Sign() != 0 {
				sum = plus(sum, times(y, k[(m-i)*j%m]))
			}
		}
		p = append(p, per(sum, whole(int64(m))))
	}
	return inForm(p)
}

// lower is a polynomial less its scalar of 1, over Y.
func lower(p []*big.Int) []*big.Int { return p[min(1, len(p)):] }

// matrix are the values of row, col and val of one matrix at K's elements.
type matrix struct{ row, col, val []*big.Int }

// matrixOf are those of padded entries.
func matrixOf(n, m int, entries []api.Entry) (x matrix) {
	h := elementsOf(n)
	for k := range m {
		if k >= len(entries) {
			x.row, x.col, x.val = append(x.row, whole(1)), append(x.col, whole(1)), append(x.val, whole(0))
			continue
		}
		row, col := h[entries[k].Row], h[entries[k].Col]
		val := per(numberOf(entries[k].Val), u(n, col, col))
		x.row, x.col, x.val = append(x.row, row), append(x.col, col), append(x.val, val)
	}
	return x
}

// indexed is an index: of each matrix values on K, and polynomials.
type indexed struct {
	n, m          int
	values, polys [3]matrix
}

// indexedOf is a shape's.
func indexedOf(s pad.Shape) indexed {
	x, k := indexed{n: s.N, m: s.M}, elementsOf(s.M)
	for i := range 3 {
		l := matrixOf(s.N, s.M, s.Rows[i])
		x.values[i], x.polys[i] = l, matrix{through(k, l.row), through(k, l.col), through(k, l.val)}
	}
	return x
}

// indexedBy is that of an Index, which may be any.
func indexedBy(o index.Index) indexed {
	x, k := indexed{n: o.N, m: o.M}, elementsOf(o.M)
	at := func(p []*big.Int) (values []*big.Int) {
		for _, z := range k {
			values = append(values, worth(p, z))
		}
		return values
	}
	for i := range 3 {
		row, col, val := backs(o.Row[i]), backs(o.Col[i]), backs(o.Val[i])
		x.values[i], x.polys[i] = matrix{at(row), at(col), at(val)}, matrix{row, col, val}
	}
	return x
}

// sumOf is the index's sum at a and b.
func (x indexed) sumOf(e [3]*big.Int, a, b *big.Int) *big.Int {
	sum := whole(0)
	for i, l := range x.values {
		for k, val := range l.val {
			if val.Sign() != 0 {
				sum = plus(sum, times(e[i], val, u(x.n, a, l.row[k]), u(x.n, b, l.col[k])))
			}
		}
	}
	return sum
}

// inSecond is the polynomial u(y, Z), or u(Z, y): v(y) less v(Z), by y - Z.
func inSecond(n int, y *big.Int) []*big.Int {
	upper := added([]*big.Int{raised(y, n)}, scaled(minus(1), added(vanishing(n), wholes(1))))
	quotient, _ := divided(upper, []*big.Int{y, minus(1)})
	return quotient
}

// poly is the polynomial of the index's sum at a.
func (x indexed) poly(e [3]*big.Int, a *big.Int) (sum []*big.Int) {
	for i, l := range x.values {
		for k, val := range l.val {
			if val.Sign() != 0 && e[i].Sign() != 0 {
				sum = added(sum, scaled(times(e[i], val, u(x.n, a, l.row[k])), inSecond(x.n, l.col[k])))
			}
		}
	}
	return inForm(sum)
}

// rowsOf are the rows' sums of a padded matrix.
func rowsOf(n int, m []api.Entry, z []*big.Int) (sums []*big.Int) {
	for range n {
		sums = append(sums, whole(0))
	}
	for _, x := range m {
		sums[x.Row] = plus(sums[x.Row], times(numberOf(x.Val), z[x.Col]))
	}
	return sums
}

// first is a first round, second a second one, third a third one.
type (
	first  struct{ z, i, w, a, b, s []*big.Int }
	second struct{ t, g, h []*big.Int }
	third  struct{ f, g, h []*big.Int }
)

// firstOf is that of a padded assignment.
func firstOf(s pad.Shape, z, d []*big.Int) (p first) {
	h := elementsOf(s.N)
	masked := func(values []*big.Int, draw *big.Int) []*big.Int {
		return added(through(h, values), scaled(draw, vanishing(s.N)))
	}
	p.z = masked(z, d[0])
	p.a, p.b = masked(rowsOf(s.N, s.Rows[0], z), d[1]), masked(rowsOf(s.N, s.Rows[1], z), d[2])
	var on []*big.Int
	for j := range s.X {
		on = append(on, z[j*s.N/s.X])
	}
	p.i = through(elementsOf(s.X), on)
	p.w, _ = divided(added(p.z, scaled(minus(1), p.i)), vanishing(s.X))
	together := whole(0)
	rest := append(wholes(0), d[3:]...)
	for _, z := range h {
		together = plus(together, worth(rest, z))
	}
	p.s = inForm(append([]*big.Int{per(less(whole(0), together), whole(int64(s.N)))}, d[3:]...))
	return p
}

// q is the polynomial Q at a.
func (x indexed) q(p first, a *big.Int, e [3]*big.Int) []*big.Int {
	rows := added(scaled(e[0], p.a), scaled(e[1], p.b), scaled(e[2], multiplied(p.a, p.b)))
	return added(p.s, multiplied(inSecond(x.n, a), rows), scaled(minus(1), multiplied(x.poly(e, a), p.z)))
}

// secondOf is that at a, or false, if the rest has a scalar of 1.
func (x indexed) secondOf(p first, a *big.Int, e [3]*big.Int) (second, bool) {
	high, rest := divided(x.q(p, a, e), vanishing(x.n))
	if len(rest) > 0 && rest[0].Sign() != 0 {
		return second{}, false
	}
	return second{x.poly(e, a), lower(rest), high}, true
}

// fraction is what f is worth at the j-th element of K.
func (x indexed) fraction(j int, a, b *big.Int, e [3]*big.Int) *big.Int {
	sum := whole(0)
	for i, l := range x.values {
		under := times(less(a, l.row[j]), less(b, l.col[j]))
		sum = plus(sum, per(times(e[i], l.val[j]), under))
	}
	return times(v(x.n, a), v(x.n, b), sum)
}

// denominator is a matrix's polynomial.
func (x indexed) denominator(i int, a, b *big.Int) []*big.Int {
	from := func(z *big.Int, p []*big.Int) []*big.Int { return added([]*big.Int{z}, scaled(minus(1), p)) }
	return multiplied(from(a, x.polys[i].row), from(b, x.polys[i].col))
}

// thirdOf is that at b.
func (x indexed) thirdOf(a *big.Int, e [3]*big.Int, b *big.Int) (p third) {
	var fractions []*big.Int
	for j := range x.m {
		fractions = append(fractions, x.fraction(j, a, b, e))
	}
	p.f = through(elementsOf(x.m), fractions)
	p.g = lower(p.f)
	of := [3][]*big.Int{x.denominator(0, a, b), x.denominator(1, a, b), x.denominator(2, a, b)}
	all := scaled(minus(1), multiplied(p.f, of[0], of[1], of[2]))
	for i, others := range [3][2]int{{1, 2}, {0, 2}, {0, 1}} {
		upper := scaled(times(v(x.n, a), v(x.n, b), e[i]), x.polys[i].val)
		all = added(all, multiplied(upper, of[others[0]], of[others[1]]))
	}
	p.h, _ = divided(all, vanishing(x.m))
	return p
}

// entry is one of a number.
func entry(row, col int, val *big.Int) api.Entry {
	return api.Entry{Row: uint32(row), Col: uint32(col), Val: bytesOf(mod(val))}
}

// entries are some: of each the row, the place, and a small number.
func entries(l ...[3]int64) (m []api.Entry) {
	for _, x := range l {
		m = append(m, entry(int(x[0]), int(x[1]), whole(x[2])))
	}
	return m
}

// square is x x = y, of 1, y, x.
func square() api.Circuit {
	x, y := entries([3]int64{0, 2, 1}), entries([3]int64{0, 1, 1})
	return api.Circuit{Rows: 1, Cols: 3, Inputs: 2, A: x, B: slices.Clone(x), C: y}
}

// cube is x x x + x + 5 = y, of 1, y, x, x x, x x x: the last row is x x x + x, times 1,
// that is y - 5.
func cube() api.Circuit {
	return api.Circuit{
		Rows: 3, Cols: 5, Inputs: 2,
		A: entries([3]int64{0, 2, 1}, [3]int64{1, 3, 1}, [3]int64{2, 2, 1}, [3]int64{2, 4, 1}),
		B: entries([3]int64{0, 2, 1}, [3]int64{1, 2, 1}, [3]int64{2, 0, 1}),
		C: entries([3]int64{0, 3, 1}, [3]int64{1, 4, 1}, [3]int64{2, 0, -5}, [3]int64{2, 1, 1}),
	}
}

// padded is a circuit laid on domains, spread an assignment.
func padded(t *testing.T, c api.Circuit) pad.Shape {
	t.Helper()
	s, e := pad.Of(c)
	if e != api.OK {
		t.Fatalf("%v: %v", c, e)
	}
	return s
}

func spread(t *testing.T, s pad.Shape, z []*big.Int) []*big.Int {
	t.Helper()
	l, e := s.Spread(els(z))
	if e != api.OK {
		t.Fatalf("%v: %v", z, e)
	}
	return backs(l)
}

// indexOf is what index tells of a shape.
func indexOf(t *testing.T, s pad.Shape) index.Index {
	t.Helper()
	x, e := index.Of(s)
	if e != api.OK {
		t.Fatalf("%d, %d, %d: %v", s.N, s.X, s.M, e)
	}
	return x
}

// oneOf is what One tells, twoOf what Two tells, threeOf what Three tells.
func oneOf(t *testing.T, s pad.Shape, z, d []*big.Int) rounds.First {
	t.Helper()
	p, e := rounds.One(s, els(z), els(d))
	if e != api.OK {
		t.Fatalf("%d, %d, %d: One: %v", s.N, s.X, s.M, e)
	}
	return p
}

func twoOf(t *testing.T, x index.Index, p rounds.First, a *big.Int, e [3]*big.Int) rounds.Second {
	t.Helper()
	q, fault := rounds.Two(x, p, el(a), three(e))
	if fault != api.OK {
		t.Fatalf("%d, %d, %d at %v by %v: Two: %v", x.N, x.X, x.M, a, e, fault)
	}
	return q
}

func threeOf(t *testing.T, x index.Index, a *big.Int, e [3]*big.Int, b *big.Int) rounds.Third {
	t.Helper()
	p, fault := rounds.Three(x, el(a), three(e), el(b))
	if fault != api.OK {
		t.Fatalf("%d, %d, %d at %v, %v by %v: Three: %v", x.N, x.X, x.M, a, b, e, fault)
	}
	return p
}

// listsOf are an answer's, by their names' order; so are those of an Index.
func listsOf1(p *rounds.First) []*[]fr.El {
	return []*[]fr.El{&p.Z, &p.I, &p.W, &p.A, &p.B, &p.S}
}

func listsOf2(p *rounds.Second) []*[]fr.El { return []*[]fr.El{&p.T, &p.G, &p.H} }

func listsOf3(p *rounds.Third) []*[]fr.El { return []*[]fr.El{&p.G, &p.H} }

func listsOfIndex(x *index.Index) (l []*[]fr.El) {
	for i := range 3 {
		l = append(l, &x.Row[i], &x.Col[i], &x.Val[i])
	}
	return l
}

// sameLists tells whether lists are alike; an empty list may be nil.
func sameLists(l, o []*[]fr.El) bool {
	return slices.EqualFunc(l, o, func(p, q *[]fr.El) bool { return slices.Equal(*p, *q) })
}

// cloneLists puts each list into other memory.
func cloneLists(l []*[]fr.El) {
	for _, p := range l {
		*p = slices.Clone(*p)
	}
}

// numbersOf is a First as numbers.
func numbersOf(p rounds.First) first {
	return first{backs(p.Z), backs(p.I), backs(p.W), backs(p.A), backs(p.B), backs(p.S)}
}

// brief is a text of a list, or of its first ones.
func brief(l []*big.Int) string {
	if len(l) > 20 {
		return fmt.Sprint(len(l), ": ", l[:20])
	}
	return fmt.Sprint(len(l), ": ", l)
}

// wantPoly fails if a polynomial is not just this one.
func wantPoly(t *testing.T, what string, got []fr.El, wanted []*big.Int) {
	t.Helper()
	if !slices.Equal(got, els(wanted)) {
		t.Errorf("%s: %s, not %s", what, brief(backs(got)), brief(wanted))
	}
}

// wantInForm fails if a polynomial ends in 0, or has more than so many scalars.
func wantInForm(t *testing.T, what string, p []fr.El, most int) {
	t.Helper()
	if len(p) > most || len(p) > 0 && p[len(p)-1] == (fr.El{}) {
		t.Errorf("%s: not in form, or more than %d scalars: %s", what, most, brief(backs(p)))
	}
}

// wantAt fails if a number is not this one.
func wantAt(t *testing.T, what string, got, wanted *big.Int) {
	t.Helper()
	if !same(got, wanted) {
		t.Errorf("%s: %v, not %v", what, got, wanted)
	}
}

// wantOne fails if One does not tell the first round, wantTwo if Two does not tell the
// second, or ErrCheck where it must, wantThree if Three does not tell the third.
func wantOne(t *testing.T, what string, s pad.Shape, z, d []*big.Int) rounds.First {
	t.Helper()
	p, wanted := oneOf(t, s, z, d), firstOf(s, z, d)
	for i, l := range [][]*big.Int{wanted.z, wanted.i, wanted.w, wanted.a, wanted.b, wanted.s} {
		wantPoly(t, what+", "+"ZIWABS"[i:i+1], *listsOf1(&p)[i], l)
	}
	return p
}

func wantTwo(t *testing.T, what string, x index.Index, o indexed, p rounds.First, a *big.Int, e [3]*big.Int) rounds.Second {
	t.Helper()
	wanted, is := o.secondOf(numbersOf(p), a, e)
	if !is {
		refuseTwo(t, what, x, p, a, e, api.ErrCheck)
		return rounds.Second{}
	}
	q := twoOf(t, x, p, a, e)
	wantPoly(t, what+", T", q.T, wanted.t)
	wantPoly(t, what+", G1", q.G, wanted.g)
	wantPoly(t, what+", H1", q.H, wanted.h)
	return q
}

func wantThree(t *testing.T, what string, x index.Index, o indexed, a *big.Int, e [3]*big.Int, b *big.Int) rounds.Third {
	t.Helper()
	p, wanted := threeOf(t, x, a, e, b), o.thirdOf(a, e, b)
	wantPoly(t, what+", G2", p.G, wanted.g)
	wantPoly(t, what+", H2", p.H, wanted.h)
	return p
}

// refuseOne fails if One does not answer this error, and nothing else; so do the others.
func refuseOne(t *testing.T, what string, s pad.Shape, z, d []fr.El, wanted api.Errno) {
	t.Helper()
	if p, e := rounds.One(s, z, d); e != wanted || !sameLists(listsOf1(&p), listsOf1(&rounds.First{})) {
		t.Errorf("%s: One: %v, not %v, or beside it something", what, e, wanted)
	}
}

func refuseTwo(t *testing.T, what string, x index.Index, p rounds.First, a *big.Int, e [3]*big.Int, wanted api.Errno) {
	t.Helper()
	if q, fault := rounds.Two(x, p, el(a), three(e)); fault != wanted || !sameLists(listsOf2(&q), listsOf2(&rounds.Second{})) {
		t.Errorf("%s: Two: %v, not %v, or beside it something", what, fault, wanted)
	}
}

func refuseThree(t *testing.T, what string, x index.Index, a *big.Int, e [3]*big.Int, b *big.Int, wanted api.Errno) {
	t.Helper()
	if p, fault := rounds.Three(x, el(a), three(e), el(b)); fault != wanted || !sameLists(listsOf3(&p), listsOf3(&rounds.Third{})) {
		t.Errorf("%s: Three: %v, not %v, or beside it something", what, fault, wanted)
	}
}

// numbers makes numbers for tests by a rule, so that every run has the same ones.
type numbers struct{ state uint64 }

func (s *numbers) word() uint64 {
	s.state += 0x9e3779b97f4a7c15
	z := s.state
	z = (z ^ z>>30) * 0xbf58476d1ce4e5b9
	z = (z ^ z>>27) * 0x94d049bb133111eb
	return z ^ z>>31
}

// below is a number from 0 to n - 1.
func (s *numbers) below(n int) int { return int(s.word() % uint64(n)) }

// big is one from 1 to r - 1: a great one, or one that is small, or nearly r.
func (s *numbers) big() *big.Int {
	switch s.below(6) {
	case 0:
		return whole(1)
	case 1:
		return whole(int64(1 + s.below(300)))
	case 2:
		return minus(int64(1 + s.below(300)))
	}
	n := new(big.Int)
	for range 5 {
		n.Lsh(n, 64).Or(n, new(big.Int).SetUint64(s.word()))
	}
	n.Mod(n, minus(1))
	return n.Add(n, whole(1))
}

// off is one that is not of the domain of n elements, nor 0.
func (s *numbers) off(n int) *big.Int {
	for {
		if k := s.big(); v(n, k).Sign() != 0 {
			return k
		}
	}
}

// list are so many numbers; some are 0.
func (s *numbers) list(count int) (l []*big.Int) {
	for range count {
		if s.below(7) == 0 {
			l = append(l, whole(0))
			continue
		}
		l = append(l, s.big())
	}
	return l
}

// draws are those of a shape.
func (s *numbers) draws(x pad.Shape) []*big.Int { return s.list(3 + 2*x.N) }

// triple are three.
func (s *numbers) triple() [3]*big.Int { return [3]*big.Int{s.big(), s.big(), s.big()} }

// assignment are so many numbers, of which the first is 1.
func (s *numbers) assignment(cols int) []*big.Int { return append(wholes(1), s.list(cols-1)...) }

// sorted are so many entries, by rows and then places, none twice.
func (s *numbers) sorted(rows, cols, count int) (m []api.Entry) {
	places := map[int]bool{}
	for len(places) < count {
		places[s.below(rows*cols)] = true
	}
	for place := range rows * cols {
		if places[place] {
			m = append(m, entry(place/cols, place%cols, s.big()))
		}
	}
	return m
}

// loose are so many entries in any order, some at one place, some of 0.
func (s *numbers) loose(n, count int) (m []api.Entry) {
	for range count {
		m = append(m, entry(s.below(n), s.below(n), s.list(1)[0]))
	}
	return m
}

// sketch is what a circuit is to be like: how many rows, columns, inputs, and entries of
// A, B and C.
type sketch struct{ rows, cols, inputs, a, b, c int }

// drawn is a circuit of a sketch.
func (s *numbers) drawn(x sketch) api.Circuit {
	return api.Circuit{
		Rows: uint32(x.rows), Cols: uint32(x.cols), Inputs: uint32(x.inputs),
		A: s.sorted(x.rows, x.cols, x.a), B: s.sorted(x.rows, x.cols, x.b), C: s.sorted(x.rows, x.cols, x.c),
	}
}

// mended is a circuit whose C is such that an assignment satisfies it: in each row where
// it does not, the first entry of C, which is that of 1, makes up for it.
func mended(c api.Circuit, z []*big.Int) api.Circuit {
	rows := int(c.Rows)
	left, right := rowsOf(rows, c.A, z), rowsOf(rows, c.B, z)
	var l []api.Entry
	for i := range rows {
		var row []api.Entry
		for _, x := range c.C {
			if int(x.Row) == i && x.Col > 0 {
				row = append(row, x)
			}
		}
		short := less(times(left[i], right[i]), rowsOf(rows, row, z)[i])
		if short.Sign() != 0 {
			l = append(l, entry(i, 0, short))
		}
		l = append(l, row...)
	}
	c.C = l
	return c
}

// satisfied is a circuit of a sketch, laid on domains, and an assignment that satisfies
// it, laid so.
func (s *numbers) satisfied(t *testing.T, x sketch) (pad.Shape, []*big.Int) {
	t.Helper()
	z := s.assignment(x.cols)
	shape := padded(t, mended(s.drawn(x), z))
	return shape, spread(t, shape, z)
}

// sketches are of several sizes; some have no entries in a matrix, or in all, some have
// matrices that are full; of some all variables are inputs, of some one.
func sketches() []sketch {
	return []sketch{
		{1, 1, 1, 0, 0, 0}, {1, 1, 1, 1, 1, 1}, {1, 1, 1, 0, 1, 0}, {1, 3, 2, 1, 1, 1}, {1, 5, 5, 3, 2, 5}, {1, 6, 1, 6, 6, 6},
		{5, 1, 1, 5, 0, 2}, {4, 1, 1, 4, 4, 4}, {2, 2, 1, 2, 1, 3}, {2, 2, 2, 4, 4, 4}, {3, 4, 4, 0, 5, 6}, {3, 4, 1, 5, 0, 6},
		{3, 4, 2, 5, 6, 0}, {3, 4, 3, 0, 0, 7}, {5, 6, 3, 0, 0, 0}, {6, 5, 5, 15, 16, 15}, {7, 9, 3, 12, 11, 9}, {9, 7, 1, 5, 16, 8},
		{8, 9, 7, 8, 9, 7}, {8, 9, 9, 7, 8, 9}, {16, 12, 4, 16, 16, 16}, {17, 12, 4, 17, 1, 15},
	}
}

// greatSketches are nearer to the limits, and at them.
func greatSketches() []sketch {
	return []sketch{{100, 70, 17, 256, 300, 90}, {1, 1024, 1, 700, 512, 1}, {1024, 1024, 600, 4096, 4095, 2049}}
}

// sized is how great a shape by hand is to be: N, X, M, and how many entries it has.
type sized struct {
	n, x, m int
	a, b, c int
}

// byHand is a shape of such sizes and entries as no circuit has.
func (s *numbers) byHand(x sized) pad.Shape {
	return pad.Shape{N: x.n, X: x.x, M: x.m, Inputs: s.below(9) - 4, Places: []int{s.below(9) - 4}, Rows: [3][]api.Entry{s.loose(x.n, x.a), s.loose(x.n, x.b), s.loose(x.n, x.c)}}
}

// manySizes are N, X and M of each small power of 2, X up to N, with K empty, and full.
func manySizes() (l []sized) {
	for n := 1; n <= 8; n *= 2 {
		for x := 1; x <= n; x *= 2 {
			for m := 1; m <= 8; m *= 2 {
				l = append(l, sized{n, x, m, 0, 0, 0}, sized{n, x, m, m, m / 2, m}, sized{n, x, m, m, m, m - 1})
			}
		}
	}
	return l
}

// powersOf2 are the sizes that domains have, noSizes numbers that are none.
func powersOf2() (l []int) {
	for n := 1; n <= api.MaxDomain; n *= 2 {
		l = append(l, n)
	}
	return l
}
