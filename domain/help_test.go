package domain_test

import (
	"math/big"
	"slices"
	"testing"

	"marlinspike/api"
	"marlinspike/domain"
	"marlinspike/fr"
)

// list are scalars of whole numbers, all of them, zeros at the end too.
func list(l ...int64) []fr.El {
	p := make([]fr.El, len(l))
	for i, n := range l {
		p[i] = fr.Of(n)
	}
	return p
}

// zeros are n of them.
func zeros(n int) []fr.El { return make([]fr.El, n) }

// longer is a list with n zeros behind it.
func longer(p []fr.El, n int) []fr.El { return append(slices.Clone(p), zeros(n)...) }

// numbers makes scalars for tests by a rule, so that every run has the same ones.
type numbers struct{ state uint64 }

func (s *numbers) word() uint64 {
	s.state += 0x9e3779b97f4a7c15
	z := s.state
	z = (z ^ z>>30) * 0xbf58476d1ce4e5b9
	z = (z ^ z>>27) * 0x94d049bb133111eb
	return z ^ z>>31
}

// scalar is one, as great as r.
func (s *numbers) scalar() fr.El {
	var b [40]byte
	for i := range b {
		b[i] = byte(s.word())
	}
	x, _ := fr.Reduce(b[:])
	return x
}

// scalars are n of them.
func (s *numbers) scalars(n int) []fr.El {
	l := make([]fr.El, n)
	for i := range l {
		l[i] = s.scalar()
	}
	return l
}

// sizes are those of domains that are gone through whole.
func sizes() []int { return []int{1, 2, 4, 8, 16, 32} }

// of is the domain of n elements.
func of(t *testing.T, n int) *domain.Domain {
	t.Helper()
	d, e := domain.New(n)
	if e != api.OK || d == nil {
		t.Fatalf("New(%d): %v", n, e)
	}
	return d
}

// elements are the powers of fr.Root(n), one after the other.
func elements(t *testing.T, n int) []fr.El {
	t.Helper()
	root, e := fr.Root(n)
	if e != api.OK {
		t.Fatal(e)
	}
	l := []fr.El{fr.Of(1)}
	for len(l) < n {
		l = append(l, l[len(l)-1].Mul(root))
	}
	return l
}

// power is a scalar to the n.
func power(x fr.El, n int) fr.El { return x.Pow([]uint64{uint64(n)}) }

// inverse is that of a scalar that is not 0.
func inverse(t *testing.T, x fr.El) fr.El {
	t.Helper()
	per, e := x.Inv()
	if e != api.OK {
		t.Fatalf("the inverse of %s: %v", big10(x), e)
	}
	return per
}

// vanishing is Z^n - 1.
func vanishing(n int) []fr.El { return append(append(list(-1), zeros(n-1)...), fr.Of(1)) }

// some are polynomials for a domain of n elements, not all of them in form: of
// none and of small numbers, with zeros at either end, and of fewer scalars than
// n, of n, of n + 1, and of several times n.
func some(n int) [][]fr.El {
	s := numbers{state: 5}
	l := [][]fr.El{
		nil, {}, list(0), zeros(2), zeros(n), zeros(3*n + 1),
		list(1), list(-1), list(7), list(1, 0), list(-3, 0, 0, 0), list(0, 1), list(1, 1), list(1, -1),
		list(5, 2), list(0, 2, 0), list(1, 2, 3, 4, 5), list(9, 0, 0, 0, 0, 2), list(0, 0, 0, 0, 0, 0, 0, 0, -4),
		vanishing(n), longer(vanishing(n), 2), append(zeros(n-1), fr.Of(3)), append(zeros(n), fr.Of(3)), append(zeros(4*n), fr.Of(-2)),
		slices.Repeat(list(1), n), slices.Repeat(list(-1), 2*n), longer(s.scalars(n), n), longer(s.scalars(n+1), 5),
	}
	for _, m := range []int{1, n / 2, n - 1, n, n + 1, 2*n - 1, 2 * n, 2*n + 1, 3*n + 2, 5 * n} {
		l = append(l, s.scalars(m))
	}
	return l
}

// values are lists of n values: of 0 alone, of one number, of one that is not 0,
// and of others.
func values(n int) [][]fr.El {
	s := numbers{state: 6}
	l := [][]fr.El{zeros(n), slices.Repeat(list(1), n), slices.Repeat(list(-6), n), s.scalars(n), s.scalars(n), s.scalars(n + 3)[:n]}
	for _, i := range []int{0, n / 2, n - 1} {
		one := zeros(n)
		one[i] = s.scalar()
		l = append(l, one)
	}
	return l
}

// places are scalars to ask at: 0, 1, elements, and such as are beside them.
func places(t *testing.T, n int) []fr.El {
	s := numbers{state: 7}
	l := append(list(0, 1, -1, 2, 3, -7, 1<<40), s.scalar(), s.scalar())
	for i, x := range elements(t, n) {
		if i < 5 || i == n-1 {
			l = append(l, x)
		}
	}
	double := elements(t, 2*n)
	return append(l, double[1], double[2*n-1], double[1].Add(fr.Of(1)))
}

// at is the scalar at a place, 0 where there is none.
func at(p []fr.El, i int) fr.El {
	if i < 0 || i >= len(p) {
		return fr.El{}
	}
	return p[i]
}

// count is how many scalars a polynomial has in form.
func count(p []fr.El) int {
	n := len(p)
	for n > 0 && p[n-1] == (fr.El{}) {
		n--
	}
	return n
}

// worth is that of each scalar times the power of z, all together.
func worth(p []fr.El, z fr.El) fr.El {
	var all fr.El
	power := fr.Of(1)
	for _, x := range p {
		all = all.Add(x.Mul(power))
		power = power.Mul(z)
	}
	return all
}

// rest is that of a polynomial by Z^n - 1: there Z^n is 1.
func rest(p []fr.El, n int) []fr.El {
	l := zeros(n)
	for i, x := range p {
		l[i%n] = l[i%n].Add(x)
	}
	return l[:count(l)]
}

// want fails if a polynomial isn't in form, or has not the scalars of another
// one, which need not be so.
func want(t *testing.T, what string, got, wanted []fr.El) {
	t.Helper()
	if n := count(got); n != len(got) {
		t.Errorf("%s: it has %d scalars, but its highest one is the %d-th", what, len(got), n)
	}
	if n := count(wanted); n != len(got) || !slices.Equal(got, wanted[:n]) {
		t.Errorf("%s: it is %s, not %s", what, text(got), text(wanted))
	}
}

// wantScalar fails if a scalar is another one.
func wantScalar(t *testing.T, what string, got, wanted fr.El) {
	t.Helper()
	if got != wanted {
		t.Errorf("%s: it is %s, not %s", what, big10(got), big10(wanted))
	}
}

// wantAll fails if a list has other scalars, or another count of them: zeros at
// its end too.
func wantAll(t *testing.T, what string, got, wanted []fr.El) {
	t.Helper()
	if !slices.Equal(got, wanted) {
		t.Errorf("%s: it is %s, of %d, not %s, of %d", what, text(got), len(got), text(wanted), len(wanted))
	}
}

// wantPoly is Poly's answer, which it fails of if it is refused.
func wantPoly(t *testing.T, what string, d *domain.Domain, l []fr.El) []fr.El {
	t.Helper()
	p, e := d.Poly(l)
	if e != api.OK {
		t.Errorf("%s: Poly: %v", what, e)
	}
	if count(p) != len(p) || len(p) > d.Size() {
		t.Errorf("%s: Poly has %d scalars, %d in form, of %d values", what, len(p), count(p), len(l))
	}
	return p
}

// text tells a list's numbers, of long ones the first.
func text(p []fr.El) string {
	told := "["
	for _, x := range p[:min(len(p), 9)] {
		told += " " + big10(x)
	}
	if len(p) > 9 {
		told += " .."
	}
	return told + " ]"
}

// big10 tells a number; near r it is told as one below 0.
func big10(x fr.El) string {
	if less := bigOf(x.Neg()); less.BitLen() < 64 && less.Sign() > 0 {
		return "-" + less.String()
	}
	return bigOf(x).String()
}

// bigOf is the library's own number of a scalar.
func bigOf(x fr.El) *big.Int {
	s := x.Scalar()
	return new(big.Int).SetBytes(s[:])
}
