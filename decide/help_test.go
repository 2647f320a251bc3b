package decide_test

import (
	"fmt"
	"math"
	"math/big"
	"slices"
	"testing"

	"marlinspike/api"
	"marlinspike/decide"
	"marlinspike/fr"
)

// The chapter's words once more, apart from the program: numbers are the library's big
// ones.

// r is X^4 - X^2 + 1.
var r = func() *big.Int {
	square := new(big.Int).SetUint64(api.X)
	square.Mul(square, square)
	n := new(big.Int).Mul(square, square)
	return n.Sub(n, square).Add(n, big.NewInt(1))
}()

// whole is a small number.
func whole(n int64) *big.Int { return big.NewInt(n) }

// wholes are small ones.
func wholes(l ...int64) (ks []*big.Int) {
	for _, n := range l {
		ks = append(ks, whole(n))
	}
	return ks
}

// zeros are so many.
func zeros(count int) []*big.Int { return slices.Repeat(wholes(0), count) }

// mod is the number from 0 to r - 1.
func mod(k *big.Int) *big.Int { return new(big.Int).Mod(k, r) }

// plus is a sum, times a product, less a difference, per a quotient, all by r.
func less(x, y *big.Int) *big.Int { return mod(new(big.Int).Sub(x, y)) }
func per(x, y *big.Int) *big.Int  { return times(x, new(big.Int).ModInverse(mod(y), r)) }

func plus(l ...*big.Int) *big.Int {
	sum := new(big.Int)
	for _, x := range l {
		sum.Add(sum, x)
	}
	return mod(sum)
}

func times(l ...*big.Int) *big.Int {
	product := whole(1)
	for _, x := range l {
		product = mod(product.Mul(product, x))
	}
	return product
}

// minus is r less n.
func minus(n int64) *big.Int { return new(big.Int).Sub(r, whole(n)) }

// raised is x^i, by r.
func raised(x *big.Int, i int) *big.Int { return new(big.Int).Exp(x, whole(int64(i)), r) }

// same tells whether two numbers are, by r.
func same(x, y *big.Int) bool { return less(x, y).Sign() == 0 }

// bytesOf are a number's bytes.
func bytesOf(k *big.Int) (s api.Scalar) {
	k.FillBytes(s[:])
	return s
}

// el is the scalar of a number.
func el(k *big.Int) fr.El {
	x, e := fr.From(bytesOf(mod(k)))
	if e != api.OK {
		panic(e)
	}
	return x
}

// els are the scalars of numbers.
func els(l []*big.Int) []fr.El {
	all := make([]fr.El, len(l))
	for i, k := range l {
		all[i] = el(k)
	}
	return all
}

// back is the number of a scalar.
func back(x fr.El) *big.Int {
	s := x.Scalar()
	return new(big.Int).SetBytes(s[:])
}

// backs are the numbers of scalars.
func backs(l []fr.El) (ks []*big.Int) {
	for _, x := range l {
		ks = append(ks, back(x))
	}
	return ks
}

// nonSquare is the least number from 2 on that is no square by r.
var nonSquare = func() *big.Int {
	half := new(big.Int).Rsh(r, 1)
	for n := int64(2); ; n++ {
		if new(big.Int).Exp(whole(n), half, r).Cmp(whole(1)) != 0 {
			return whole(n)
		}
	}
}()

// elementsOf are those of the domain of n, in order.
func elementsOf(n int) []*big.Int {
	exponent := new(big.Int).Div(minus(1), whole(int64(n)))
	g := new(big.Int).Exp(nonSquare, exponent, r)
	l := []*big.Int{whole(1)}
	for len(l) < n {
		l = append(l, times(l[len(l)-1], g))
	}
	return l
}

// v is z^n - 1.
func v(n int, z *big.Int) *big.Int { return less(raised(z, n), whole(1)) }

// u is the quotient of differences; of two alike n y^(n - 1).
func u(n int, y, z *big.Int) *big.Int {
	if same(y, z) {
		return times(whole(int64(n)), raised(y, n-1))
	}
	return per(less(v(n, y), v(n, z)), less(y, z))
}

// lagrange is what the polynomial is worth at z that is 1 at the i-th element, and 0 at
// the others.
func lagrange(elements []*big.Int, i int, z *big.Int) *big.Int {
	upper, under := whole(1), whole(1)
	for j, x := range elements {
		if j != i {
			upper, under = times(upper, less(z, x)), times(under, less(elements[i], x))
		}
	}
	return per(upper, under)
}

// worth is what a polynomial is worth at z.
func worth(p []*big.Int, z *big.Int) *big.Int {
	sum := whole(0)
	for _, x := range slices.Backward(p) {
		sum = plus(times(sum, z), x)
	}
	return sum
}

// The places of values in a list of them. Of each matrix there is a Row, a Col and a Val.
const (
	atW = iota
	atA
	atB
	atS
	atT
	atG1
	atH1
	atRow
	atCol = atRow + 3
	atVal = atCol + 3
	atG2  = atVal + 3
	atH2  = atG2 + 1
	count = atH2 + 1
)

// named are they by name.
func named(i int) string {
	return [count]string{"W", "A", "B", "S", "T", "G1", "H1", "Row A", "Row B", "Row C", "Col A", "Col B", "Col C", "Val A", "Val B", "Val C", "G2", "H2"}[i]
}

// tale is what the calls are handed.
type tale struct {
	z       decide.Sizes
	in      []*big.Int
	a, b, g *big.Int
	e       [3]*big.Int
	l       [count]*big.Int
}

// values are a tale's.
func (x tale) values() decide.Values {
	l := [count]fr.El(els(x.l[:]))
	return decide.Values{
		W: l[atW], A: l[atA], B: l[atB], S: l[atS], T: l[atT], G1: l[atG1], H1: l[atH1],
		Row: [3]fr.El(l[atRow:atCol]), Col: [3]fr.El(l[atCol:atVal]), Val: [3]fr.El(l[atVal:atG2]),
		G2: l[atG2], H2: l[atH2],
	}
}

// three are a tale's e.
func (x tale) three() [3]fr.El { return [3]fr.El(els(x.e[:])) }

// but is a tale of which one value is another one.
func (x tale) but(i int, k *big.Int) tale {
	x.l[i] = k
	return x
}

// inputs is what I is worth at b.
func (x tale) inputs() *big.Int {
	elements, sum := elementsOf(x.z.X), whole(0)
	for i, k := range x.in {
		if k.Sign() != 0 {
			sum = plus(sum, times(k, lagrange(elements, i, x.b)))
		}
	}
	return sum
}

// first are both sides of the first equation, second those of the second one.
func (x tale) first() (left, right *big.Int) {
	l, n := x.l, x.z.N
	rows := plus(times(x.e[0], l[atA]), times(x.e[1], l[atB]), times(x.e[2], l[atA], l[atB]))
	all := plus(times(l[atW], v(x.z.X, x.b)), x.inputs())
	left = less(plus(l[atS], times(u(n, x.a, x.b), rows)), times(l[atT], all))
	return left, plus(times(l[atH1], v(n, x.b)), times(x.b, l[atG1]))
}

func (x tale) second() (left, right *big.Int) {
	l, n := x.l, x.z.N
	d := [3]*big.Int{x.denominator(0), x.denominator(1), x.denominator(2)}
	sum := whole(0)
	for i, others := range [3][2]int{{1, 2}, {0, 2}, {0, 1}} {
		sum = plus(sum, times(v(n, x.a), v(n, x.b), x.e[i], l[atVal+i], d[others[0]], d[others[1]]))
	}
	f := plus(times(x.g, l[atG2]), per(l[atT], whole(int64(x.z.M))))
	return less(sum, times(d[0], d[1], d[2], f)), times(l[atH2], v(x.z.M, x.g))
}

// denominator is a matrix's.
func (x tale) denominator(i int) *big.Int {
	return times(less(x.a, x.l[atRow+i]), less(x.b, x.l[atCol+i]))
}

// equation is one of both: its sides by the chapter's words, the call that tells whether
// it holds, and the places of the values that stand in it.
type equation struct {
	name  string
	sides func(x tale) (left, right *big.Int)
	asked func(x tale) (bool, api.Errno)
	parts []int
}

func first() equation {
	asked := func(x tale) (bool, api.Errno) {
		return decide.First(x.z, els(x.in), el(x.a), x.three(), el(x.b), x.values())
	}
	return equation{"First", tale.first, asked, []int{atW, atA, atB, atS, atT, atG1, atH1}}
}

func second() equation {
	asked := func(x tale) (bool, api.Errno) {
		return decide.Second(x.z, el(x.a), x.three(), el(x.b), el(x.g), x.values())
	}
	parts := []int{atT, atG2, atH2}
	for i := range 3 {
		parts = append(parts, atRow+i, atCol+i, atVal+i)
	}
	return equation{"Second", tale.second, asked, parts}
}

func both() []equation { return []equation{first(), second()} }

// holds tells whether it does, by the chapter's words.
func (q equation) holds(x tale) bool { return same(q.sides(x)) }

// beside is what the value at a place is multiplied by. Each value alone stands in a side
// once, or beside others, and never beside itself.
func (q equation) beside(x tale, i int) *big.Int {
	apart := func(n int64) *big.Int { return less(q.sides(x.but(i, whole(n)))) }
	return less(apart(1), apart(0))
}

// mended is a tale of which the value at a place is such that the equation holds, if what
// it is multiplied by is not 0.
func (q equation) mended(x tale, i int) (tale, bool) {
	times := q.beside(x, i)
	if times.Sign() == 0 {
		return x, false
	}
	apart := less(q.sides(x.but(i, whole(0))))
	return x.but(i, per(less(whole(0), apart), times)), true
}

// sure is mended where it must be so.
func (q equation) sure(t *testing.T, what string, x tale, i int) tale {
	t.Helper()
	x, is := q.mended(x, i)
	if !is {
		t.Fatalf("%s, %s: %s plays no part", q.name, what, named(i))
	}
	return x
}

// want fails if it is not told that the equation holds, or that it does not.
func (q equation) want(t *testing.T, what string, x tale, wanted bool) {
	t.Helper()
	if is, e := q.asked(x); is != wanted || e != api.OK {
		t.Errorf("%s of %+v, %s: %v, %v, not %v", q.name, x.z, what, is, e, wanted)
	}
}

// wantAll fails if what is told of a tale, and of those of which one value is another one,
// is not what the chapter's words tell. A tale of which the equation holds does so of
// another value just if that is multiplied by 0, or stands not in it.
func (q equation) wantAll(t *testing.T, what string, x tale) {
	t.Helper()
	is := q.holds(x)
	q.want(t, what, x, is)
	for i := range count {
		other := x.but(i, plus(x.l[i], whole(1)))
		wanted := q.holds(other)
		if plays := slices.Contains(q.parts, i) && q.beside(x, i).Sign() != 0; is && wanted == plays {
			t.Fatalf("%s, %s: %s: the words are not as they say", q.name, what, named(i))
		}
		q.want(t, what+", another "+named(i), other, wanted)
	}
}

// wantMended fails if not all is told as it must be of a tale, as it is, and of those in
// which one value alone is put right.
func (q equation) wantMended(t *testing.T, what string, x tale) {
	t.Helper()
	q.wantAll(t, what, x)
	for _, i := range q.parts {
		if y, is := q.mended(x, i); is {
			q.want(t, what+", mended by "+named(i), y, true)
			for _, k := range []*big.Int{plus(y.l[i], whole(1)), plus(y.l[i], minus(1)), less(whole(0), y.l[i])} {
				q.want(t, what+", broken by "+named(i), y.but(i, k), same(k, y.l[i]))
			}
		}
	}
}

// wantInputs fails if Inputs does not tell this.
func wantInputs(t *testing.T, what string, z decide.Sizes, in []*big.Int, b, wanted *big.Int) {
	t.Helper()
	if got, e := decide.Inputs(z, els(in), el(b)); e != api.OK || got != el(wanted) {
		t.Errorf("%s: Inputs of %+v, of %d at %v: %v, %v, not %v", what, z, len(in), b, back(got), e, wanted)
	}
}

// refused fails if not all three calls answer these errors, and nothing else.
func (x tale) refused(t *testing.T, what string, inputs, one, two api.Errno) {
	t.Helper()
	if got, e := decide.Inputs(x.z, els(x.in), el(x.b)); e != inputs || e != api.OK && got != (fr.El{}) {
		t.Errorf("%s: Inputs of %+v, of %d: %v, %v, not %v", what, x.z, len(x.in), back(got), e, inputs)
	}
	for i, wanted := range [2]api.Errno{one, two} {
		q := both()[i]
		if is, e := q.asked(x); e != wanted || e != api.OK && is {
			t.Errorf("%s: %s of %+v, of %d: %v, %v, not %v", what, q.name, x.z, len(x.in), is, e, wanted)
		}
	}
}

// numbers makes numbers for tests by a rule, so that every run has the same ones.
type numbers struct{ state uint64 }

func (s *numbers) word() uint64 {
	s.state += 0x9e3779b97f4a7c15
	z := s.state
	z = (z ^ z>>30) * 0xbf58476d1ce4e5b9
	z = (z ^ z>>27) * 0x94d049bb133111eb
	return z ^ z>>31
}

// below is a number from 0 to n - 1.
func (s *numbers) below(n int) int { return int(s.word() % uint64(n)) }

// big is one from 1 to r - 1: a great one, or one that is small, or nearly r.
func (s *numbers) big() *big.Int {
	switch s.below(6) {
	case 0:
		return whole(1)
	case 1:
		return whole(int64(1 + s.below(300)))
	case 2:
		return minus(int64(1 + s.below(300)))
	}
	return s.great()
}

// great is any, from 1 to r - 1.
func (s *numbers) great() *big.Int {
	n := new(big.Int)
	for range 5 {
		n.Lsh(n, 64).Or(n, new(big.Int).SetUint64(s.word()))
	}
	n.Mod(n, minus(1))
	return n.Add(n, whole(1))
}

// off is one that is not of the domain of n elements, nor 0.
func (s *numbers) off(n int) *big.Int {
	for {
		if k := s.big(); v(n, k).Sign() != 0 {
			return k
		}
	}
}

// list are so many numbers; some are 0.
func (s *numbers) list(count int) (l []*big.Int) {
	for range count {
		if s.below(7) == 0 {
			l = append(l, whole(0))
			continue
		}
		l = append(l, s.big())
	}
	return l
}

// triple are three.
func (s *numbers) triple() [3]*big.Int { return [3]*big.Int{s.big(), s.big(), s.big()} }

// any is a tale of sizes, of so many inputs, and of any scalars, none of them 0; a, b and g
// are of none of the domains.
func (s *numbers) any(z decide.Sizes, inputs int) (x tale) {
	greatest := max(z.N, z.X, z.M)
	x = tale{z: z, a: s.off(greatest), b: s.off(greatest), g: s.off(greatest), e: s.triple()}
	for range inputs {
		x.in = append(x.in, s.big())
	}
	for i := range x.l {
		x.l[i] = s.great()
	}
	return x
}

// manySizes are N, X and M of each small power of 2; some X are above N.
func manySizes() (l []decide.Sizes) {
	for n := 1; n <= 8; n *= 2 {
		for x := 1; x <= 2*n; x *= 2 {
			for m := 1; m <= 16; m *= 4 {
				l = append(l, decide.Sizes{N: n, X: x, M: m})
			}
		}
	}
	return l
}

// fewSizes are some of several kinds: the least ones, X below N, X that is N, and twice N,
// and the greatest N and M.
func fewSizes() []decide.Sizes {
	return []decide.Sizes{{1, 1, 1}, {1, 2, 1}, {2, 1, 2}, {4, 2, 2}, {8, 4, 32}, {8, 8, 4}, {8, 16, 1}, {64, 16, 2}, {api.MaxDomain, 2, api.MaxDomain}}
}

// powersOf2 are the sizes that domains have, noSizes numbers that are none.
func powersOf2() (l []int) {
	for n := 1; n <= api.MaxDomain; n *= 2 {
		l = append(l, n)
	}
	return l
}

func noSizes() []int {
	return []int{0, -1, -2, -4, -api.MaxDomain, 3, 5, 6, 7, 9, 12, 1000, api.MaxDomain - 1, api.MaxDomain + 1, 3 * api.MaxDomain / 4, 2 * api.MaxDomain, 1 << 20, 1 << 31, 1<<31 + 1, 1 << 32, 1<<32 + 1, 1<<32 + 4, 1 << 47, 1 << 48, 1 << 62, math.MinInt, math.MinInt + 1, math.MinInt + 4, math.MaxInt, math.MaxInt - 1}
}

// sized is one with one number of sizes, or several, written to it.
func sized(z decide.Sizes, which, n int) decide.Sizes {
	for i, p := range []*int{&z.N, &z.X, &z.M} {
		if which>>i&1 == 1 {
			*p = n
		}
	}
	return z
}

// what tells where a test is.
func what(l ...any) string { return fmt.Sprint(l...) }
