package fq12_test

import (
	"fmt"
	"math/big"
	"slices"
	"strings"
	"testing"

	"marlinspike/api"
	"marlinspike/fq"
	"marlinspike/fq12"
	"marlinspike/fq2"
	"marlinspike/fq6"
)

// q is (X - 1)^2 (X^4 - X^2 + 1) / 3 + X, by the library's own numbers.
func q() *big.Int {
	x := new(big.Int).SetUint64(api.X)
	square := new(big.Int).Mul(x, x)
	r := new(big.Int).Mul(square, square)
	r.Sub(r, square).Add(r, big.NewInt(1))
	less := new(big.Int).Sub(x, big.NewInt(1))
	n := new(big.Int).Mul(less, less)
	return n.Mul(n, r).Div(n, big.NewInt(3)).Add(n, x)
}

// power is q^n, and some more or less.
func power(n, more int64) *big.Int {
	b := new(big.Int).Exp(q(), big.NewInt(n), nil)
	return b.Add(b, big.NewInt(more))
}

// byQ is the number from 0 to q - 1.
func byQ(b *big.Int) *big.Int { return new(big.Int).Mod(b, q()) }

// bigOf is the number of words, by the library's own ones.
func bigOf(w []uint64) *big.Int {
	b := new(big.Int)
	for _, x := range slices.Backward(w) {
		b.Lsh(b, 64).Or(b, new(big.Int).SetUint64(x))
	}
	return b
}

// fromBig are the words of a number, in form.
func fromBig(b *big.Int) []uint64 {
	var w []uint64
	low := new(big.Int).SetUint64(1<<64 - 1)
	for b = new(big.Int).Set(b); b.Sign() > 0; b.Rsh(b, 64) {
		w = append(w, new(big.Int).And(b, low).Uint64())
	}
	return w
}

// model is an element by the library's own numbers, each from 0 to q - 1, and
// without pairs or triples: as w^6 is u, and u^2 is -5, it is a sum of twelve
// powers of w, of which w^12 is -5. At place n is the number ahead of w^n.
type model [12]*big.Int

func modelOf(l [12]*big.Int) (m model) {
	for i := range l {
		m[i] = byQ(l[i])
	}
	return m
}

// small is of whole numbers: those ahead of the powers of w, as far as they are
// there.
func small(l ...int64) (m model) {
	for i := range m {
		m[i] = new(big.Int)
	}
	for i, n := range l {
		m[i] = byQ(big.NewInt(n))
	}
	return m
}

// at is n times w^place.
func at(place int, n int64) model {
	m := small()
	m[place] = byQ(big.NewInt(n))
	return m
}

func (m model) String() string {
	var l []string
	for i, n := range m {
		if n.Sign() != 0 {
			l = append(l, fmt.Sprintf("%x w^%d", n, i))
		}
	}
	return "(" + strings.Join(l, " + ") + ")"
}

func (m model) add(n model) model {
	var l [12]*big.Int
	for i := range l {
		l[i] = new(big.Int).Add(m[i], n[i])
	}
	return modelOf(l)
}

func (m model) neg() model {
	var l [12]*big.Int
	for i := range l {
		l[i] = new(big.Int).Neg(m[i])
	}
	return modelOf(l)
}

// conj has -w in the place of w.
func (m model) conj() model {
	for i := 1; i < len(m); i += 2 {
		m[i] = byQ(new(big.Int).Neg(m[i]))
	}
	return m
}

func (m model) mul(n model) model {
	var l [12]*big.Int
	for i := range l {
		l[i] = new(big.Int)
	}
	for i := range m {
		for j := range n {
			p := new(big.Int).Mul(m[i], n[j])
			if i+j > 11 {
				p.Mul(p, big.NewInt(-5))
			}
			l[(i+j)%12].Add(l[(i+j)%12], p)
		}
	}
	return modelOf(l)
}

func (m model) pow(e *big.Int) model {
	p := small(1)
	for i := e.BitLen() - 1; i >= 0; i-- {
		p = p.mul(p)
		if e.Bit(i) == 1 {
			p = p.mul(m)
		}
	}
	return p
}

func (m model) same(n model) bool {
	for i := range m {
		if m[i].Cmp(n[i]) != 0 {
			return false
		}
	}
	return true
}

func (m model) zero() bool { return m.same(small()) }

// told is the model of an element, by what its coordinates tell.
func told(x fq12.El) (m model) {
	for i, p := range [6]fq2.El{x.A.A, x.B.A, x.A.B, x.B.B, x.A.C, x.B.C} {
		m[i], m[i+6] = bigOf(p.A.Nat()), bigOf(p.B.Nat())
	}
	return m
}

// coordinate is that of a number, by q.
func coordinate(t *testing.T, b *big.Int) fq.El {
	t.Helper()
	var l [48]byte
	byQ(b).FillBytes(l[:])
	x, e := fq.From(l)
	if e != api.OK {
		t.Fatalf("From(%x): %v", byQ(b), e)
	}
	return x
}

// element is that of a model, its triples put together by hand.
func element(t *testing.T, m model) fq12.El {
	t.Helper()
	var p [6]fq2.El
	for i := range p {
		p[i] = fq2.El{A: coordinate(t, m[i]), B: coordinate(t, m[i+6])}
	}
	return fq12.El{A: fq6.El{A: p[0], B: p[2], C: p[4]}, B: fq6.El{A: p[1], B: p[3], C: p[5]}}
}

// elements are those of models.
func elements(t *testing.T, l []model) []fq12.El {
	t.Helper()
	var all []fq12.El
	for _, m := range l {
		all = append(all, element(t, m))
	}
	return all
}

// want fails if x isn't the element of m, as its coordinates, as a value, and
// in whether it is told to be 0.
func want(t *testing.T, call string, x fq12.El, m model) {
	t.Helper()
	if !told(x).same(m) || x != element(t, m) {
		t.Errorf("%s is %v, not %v", call, told(x), m)
	}
	if x.IsZero() != m.zero() {
		t.Errorf("%s, that is %v, is zero: %v", call, m, x.IsZero())
	}
}

// numbers makes numbers by a rule, so that every run has the same ones: each
// is the one before, times a number, and one more.
type numbers struct{ last *big.Int }

// next is one of 512 bits.
func (n *numbers) next() *big.Int {
	if n.last == nil {
		n.last = big.NewInt(1)
	}
	all := new(big.Int).Lsh(big.NewInt(1), 576)
	n.last = new(big.Int).Mul(n.last, bigOf([]uint64{0x9e3779b97f4a7c15, 0xbf58476d1ce4e5b9, 0x94d049bb133111eb}))
	n.last.Add(n.last, big.NewInt(1)).And(n.last, all.Sub(all, big.NewInt(1)))
	return new(big.Int).Rsh(n.last, 64)
}

// edges are numbers by q at which calls may go astray.
func edges() []*big.Int {
	half := new(big.Int).Rsh(q(), 1)
	return []*big.Int{
		big.NewInt(1), big.NewInt(-1), big.NewInt(5), big.NewInt(-5), half, new(big.Int).Add(half, big.NewInt(1)),
		new(big.Int).SetUint64(1<<64 - 1), byQ(new(big.Int).Lsh(big.NewInt(1), 376)),
	}
}

// shaped is of twelve numbers those whose bits stand in shape, and 0 in place of
// the others.
func shaped(shape int, next func() *big.Int) model {
	m := small()
	for i := range m {
		if shape>>i&1 == 1 {
			m[i] = byQ(next())
		}
	}
	return m
}

// some are models: of each choice of the six parts that are not 0, one of
// numbers, one of numbers times u and one of both, by turns of edges and of
// other numbers; then count of other ones.
func some(count int) []model {
	var l []model
	var others numbers
	n := 0
	edge := func() *big.Int {
		n++
		return edges()[n*n%len(edges())]
	}
	for parts := range 64 {
		// The numbers ahead of u in the parts are those six places on.
		for i, shape := range []int{parts, parts << 6, parts | parts<<6} {
			if (i+parts)%2 == 0 {
				l = append(l, shaped(shape, edge))
			} else {
				l = append(l, shaped(shape, others.next))
			}
		}
	}
	for range count {
		l = append(l, shaped(1<<12-1, others.next))
	}
	return l
}

// few are models for what is asked of every two, or takes long: small ones, one
// of each part alone, some of several parts, then count of other ones.
func few(count int) []model {
	l := []model{
		small(), small(1), small(-1), small(0, 1), at(6, 1), at(11, -1), small(1, 1), small(1, -1),
		small(2, -3, 5, -7, 11, -13, 17, -19, 23, -29, 31, -37), small(-1, -1, -1, -1, -1, -1, -1, -1, -1, -1, -1, -1),
	}
	var others numbers
	for _, parts := range []int{1, 2, 4, 8, 16, 32, 21, 42, 3, 36, 30, 47} { // 21 is a triple alone, 42 one times w
		l = append(l, shaped(parts|parts<<6, others.next))
	}
	for range count {
		l = append(l, shaped(1<<12-1, others.next))
	}
	return l
}
