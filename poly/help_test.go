package poly_test

import (
	"math/big"
	"slices"
	"testing"

	"marlinspike/api"
	"marlinspike/fr"
	"marlinspike/poly"
)

// list are scalars of whole numbers, all of them, zeros at the end too.
func list(l ...int64) []fr.El {
	p := make([]fr.El, len(l))
	for i, n := range l {
		p[i] = fr.Of(n)
	}
	return p
}

// zeros are n of them.
func zeros(n int) []fr.El { return make([]fr.El, n) }

// longer is a list with n zeros behind it.
func longer(p []fr.El, n int) []fr.El { return append(slices.Clone(p), zeros(n)...) }

// numbers makes scalars for tests by a rule, so that every run has the same ones.
type numbers struct{ state uint64 }

func (s *numbers) word() uint64 {
	s.state += 0x9e3779b97f4a7c15
	z := s.state
	z = (z ^ z>>30) * 0xbf58476d1ce4e5b9
	z = (z ^ z>>27) * 0x94d049bb133111eb
	return z ^ z>>31
}

// scalar is one, as great as r.
func (s *numbers) scalar() fr.El {
	var b [40]byte
	for i := range b {
		b[i] = byte(s.word())
	}
	x, _ := fr.Reduce(b[:])
	return x
}

// scalars are n of them.
func (s *numbers) scalars(n int) []fr.El {
	l := make([]fr.El, n)
	for i := range l {
		l[i] = s.scalar()
	}
	return l
}

// sparse are n scalars, of which few are not 0; the last one is so.
func (s *numbers) sparse(n int) []fr.El {
	l := make([]fr.El, n)
	for range n/8 + 1 {
		l[s.word()%uint64(n)] = s.scalar()
	}
	l[n-1] = s.scalar()
	return l
}

// some are polynomials, not all of them in form: of none and of small numbers,
// with zeros at either end and between, and of others.
func some() [][]fr.El {
	s := numbers{state: 5}
	l := [][]fr.El{
		nil, {}, list(0), zeros(2), zeros(9),
		list(1), list(-1), list(7), list(1, 0), list(-3, 0, 0, 0),
		list(0, 1), list(1, 1), list(1, -1), list(-1, 1), list(0, 2, 0), list(5, 3, 0, 0),
		list(0, 0, 1), list(0, 0, 0, 4, 0), list(-1, 0, 1), list(-1, 0, 0, 0, 0, 0, 1, 0, 0),
		list(1, 2, 3, 4, 5), list(5, -4, 3, -2, 1, 0), list(9, 0, 0, 0, 0, 2), s.sparse(23),
	}
	for _, n := range []int{1, 2, 3, 4, 7, 8, 13} {
		l = append(l, s.scalars(n))
	}
	return append(l, longer(s.scalars(5), 1), longer(s.scalars(6), 7))
}

// places are scalars to ask at.
func places() []fr.El {
	s := numbers{state: 6}
	root, _ := fr.Root(8)
	return append(list(0, 1, -1, 2, 3, -7, 1<<40), root, s.scalar(), s.scalar())
}

// at is the scalar at a place, 0 where there is none.
func at(p []fr.El, i int) fr.El {
	if i < 0 || i >= len(p) {
		return fr.El{}
	}
	return p[i]
}

// count is how many scalars a polynomial has in form.
func count(p []fr.El) int {
	n := len(p)
	for n > 0 && p[n-1] == (fr.El{}) {
		n--
	}
	return n
}

// product is so by its words: the i-th and the j-th scalar go to the place i + j.
func product(p, q []fr.El) []fr.El {
	l := zeros(len(p) + len(q))
	for k := range l {
		for i := range k + 1 {
			l[k] = l[k].Add(at(p, i).Mul(at(q, k-i)))
		}
	}
	return l
}

// sum is that of the scalars at the same places.
func sum(p, q []fr.El) []fr.El {
	l := zeros(max(len(p), len(q)))
	for i := range l {
		l[i] = at(p, i).Add(at(q, i))
	}
	return l
}

// worth is that of each scalar times the power of z, all together.
func worth(p []fr.El, z fr.El) fr.El {
	var all fr.El
	for i, x := range p {
		all = all.Add(x.Mul(z.Pow([]uint64{uint64(i)})))
	}
	return all
}

// want fails if a polynomial isn't in form, or has not the scalars of another
// one, which need not be so.
func want(t *testing.T, what string, got, wanted []fr.El) {
	t.Helper()
	if n := count(got); n != len(got) {
		t.Errorf("%s: it has %d scalars, but its highest one is the %d-th", what, len(got), n)
	}
	if n := count(wanted); n != len(got) || !slices.Equal(got, wanted[:n]) {
		t.Errorf("%s: it is %s, not %s", what, text(got), text(wanted))
	}
}

// text tells a list's numbers, of long ones the first.
func text(p []fr.El) string {
	told := "["
	for _, x := range p[:min(len(p), 9)] {
		told += " " + big10(x)
	}
	if len(p) > 9 {
		told += " .."
	}
	return told + " ]"
}

// big10 tells a number; near r it is told as one below 0.
func big10(x fr.El) string {
	if less := bigOf(x.Neg()); less.BitLen() < 64 && less.Sign() > 0 {
		return "-" + less.String()
	}
	return bigOf(x).String()
}

// bigOf is the library's own number of a scalar.
func bigOf(x fr.El) *big.Int {
	s := x.Scalar()
	return new(big.Int).SetBytes(s[:])
}

// r is X^4 - X^2 + 1, by the library's own numbers.
func r() *big.Int {
	x := new(big.Int).SetUint64(api.X)
	square := new(big.Int).Mul(x, x)
	n := new(big.Int).Mul(square, square)
	return n.Sub(n, square).Add(n, big.NewInt(1))
}

// slot is for how many bits of a great number one scalar has room there: sums of
// some thousand products stay in it.
const slot = 600

// great is one number that a polynomial's scalars lie in, side by side.
func great(p []fr.El) *big.Int {
	n := new(big.Int)
	for i := len(p) - 1; i >= 0; i-- {
		n.Lsh(n, slot).Add(n, bigOf(p[i]))
	}
	return n
}

// parts are the scalars that lie in a great number, each by r.
func parts(t *testing.T, n *big.Int) (p []fr.El) {
	t.Helper()
	low := new(big.Int).Sub(new(big.Int).Lsh(big.NewInt(1), slot), big.NewInt(1))
	for n = new(big.Int).Set(n); n.Sign() > 0; n.Rsh(n, slot) {
		part := new(big.Int).And(n, low)
		var s api.Scalar
		part.Mod(part, r()).FillBytes(s[:])
		x, e := fr.From(s)
		if e != api.OK {
			t.Fatal(e)
		}
		p = append(p, x)
	}
	return p
}

// wantDivided fails if DivMod's answer isn't the quotient and the rest: times q
// and together they are p, and the rest has fewer scalars than q.
func wantDivided(t *testing.T, what string, p, q []fr.El) (quotient, rest []fr.El) {
	t.Helper()
	quotient, rest, e := poly.DivMod(p, q)
	if e != api.OK {
		t.Errorf("%s: DivMod: %v", what, e)
	}
	if count(quotient) != len(quotient) || count(rest) != len(rest) {
		t.Errorf("%s: not in form: %s, %s", what, text(quotient), text(rest))
	}
	if len(rest) >= count(q) {
		t.Errorf("%s: the rest has %d scalars, and the divisor %d", what, len(rest), count(q))
	}
	whole := parts(t, new(big.Int).Add(new(big.Int).Mul(great(quotient), great(q)), great(rest)))
	if n := count(whole); n != count(p) || !slices.Equal(whole[:n], p[:n]) {
		t.Errorf("%s: %s times the divisor and %s are %s, not %s", what, text(quotient), text(rest), text(whole), text(p))
	}
	return quotient, rest
}

// wantThrough fails if Points' answer has more scalars than there are points, or
// is not worth ys at xs.
func wantThrough(t *testing.T, what string, xs, ys []fr.El) []fr.El {
	t.Helper()
	p, e := poly.Points(xs, ys)
	if e != api.OK {
		t.Errorf("%s: Points: %v", what, e)
	}
	if count(p) != len(p) || len(p) > len(xs) {
		t.Errorf("%s: %d scalars, %d in form, of %d points", what, len(p), count(p), len(xs))
	}
	for i, x := range xs {
		if y := worth(p, x); y != ys[i] {
			t.Errorf("%s: at %s it is worth %s, not %s", what, big10(x), big10(y), big10(ys[i]))
		}
	}
	return p
}

// from are n whole numbers, one after the other.
func from(first int64, n int) []fr.El {
	l := make([]fr.El, n)
	for i := range l {
		l[i] = fr.Of(first + int64(i))
	}
	return l
}
