package fq6_test

import (
	"fmt"
	"math/big"
	"slices"
	"testing"

	"marlinspike/api"
	"marlinspike/fq"
	"marlinspike/fq2"
	"marlinspike/fq6"
)

// q is (X - 1)^2 (X^4 - X^2 + 1) / 3 + X, by the library's own numbers.
func q() *big.Int {
	x := new(big.Int).SetUint64(api.X)
	square := new(big.Int).Mul(x, x)
	r := new(big.Int).Mul(square, square)
	r.Sub(r, square).Add(r, big.NewInt(1))
	less := new(big.Int).Sub(x, big.NewInt(1))
	n := new(big.Int).Mul(less, less)
	return n.Mul(n, r).Div(n, big.NewInt(3)).Add(n, x)
}

// byQ is the number from 0 to q - 1.
func byQ(b *big.Int) *big.Int { return new(big.Int).Mod(b, q()) }

// bigOf is the number of words, by the library's own ones.
func bigOf(w []uint64) *big.Int {
	b := new(big.Int)
	for _, x := range slices.Backward(w) {
		b.Lsh(b, 64).Or(b, new(big.Int).SetUint64(x))
	}
	return b
}

// fromBig are the words of a number, in form.
func fromBig(b *big.Int) []uint64 {
	var w []uint64
	low := new(big.Int).SetUint64(1<<64 - 1)
	for b = new(big.Int).Set(b); b.Sign() > 0; b.Rsh(b, 64) {
		w = append(w, new(big.Int).And(b, low).Uint64())
	}
	return w
}

// model is an element by the library's own numbers, each from 0 to q - 1, and
// without pairs: as v^3 is u, and u^2 is -5, it is a sum of six powers of v, of
// which v^6 is -5. At place n is the number ahead of v^n.
type model [6]*big.Int

func modelOf(l [6]*big.Int) model {
	var m model
	for i := range l {
		m[i] = byQ(l[i])
	}
	return m
}

// small is of whole numbers, those of the parts a, b, c in turn: a number and
// that ahead of u.
func small(a, au, b, bu, c, cu int64) model {
	var l [6]*big.Int
	for i, n := range [6]int64{a, b, c, au, bu, cu} {
		l[i] = big.NewInt(n)
	}
	return modelOf(l)
}

func (m model) String() string {
	return fmt.Sprintf("(%x + %x u) + (%x + %x u) v + (%x + %x u) v^2", m[0], m[3], m[1], m[4], m[2], m[5])
}

func (m model) add(n model) model {
	var l [6]*big.Int
	for i := range l {
		l[i] = new(big.Int).Add(m[i], n[i])
	}
	return modelOf(l)
}

func (m model) neg() model {
	var l [6]*big.Int
	for i := range l {
		l[i] = new(big.Int).Neg(m[i])
	}
	return modelOf(l)
}

func (m model) mul(n model) model {
	var l [6]*big.Int
	for i := range l {
		l[i] = new(big.Int)
	}
	for i := range m {
		for j := range n {
			p := new(big.Int).Mul(m[i], n[j])
			if i+j > 5 {
				p.Mul(p, big.NewInt(-5))
			}
			l[(i+j)%6].Add(l[(i+j)%6], p)
		}
	}
	return modelOf(l)
}

func (m model) same(n model) bool {
	for i := range m {
		if m[i].Cmp(n[i]) != 0 {
			return false
		}
	}
	return true
}

func (m model) zero() bool { return m.same(small(0, 0, 0, 0, 0, 0)) }

// told is the model of an element, by what its coordinates tell.
func told(x fq6.El) model {
	var m model
	for i, c := range [6]fq.El{x.A.A, x.B.A, x.C.A, x.A.B, x.B.B, x.C.B} {
		m[i] = bigOf(c.Nat())
	}
	return m
}

// coordinate is that of a number, by q.
func coordinate(t *testing.T, b *big.Int) fq.El {
	t.Helper()
	var l [48]byte
	byQ(b).FillBytes(l[:])
	x, e := fq.From(l)
	if e != api.OK {
		t.Fatalf("From(%x): %v", byQ(b), e)
	}
	return x
}

// element is that of a model.
func element(t *testing.T, m model) fq6.El {
	t.Helper()
	var c [6]fq.El
	for i := range c {
		c[i] = coordinate(t, m[i])
	}
	return fq6.El{A: fq2.El{A: c[0], B: c[3]}, B: fq2.El{A: c[1], B: c[4]}, C: fq2.El{A: c[2], B: c[5]}}
}

// elements are those of models.
func elements(t *testing.T, l []model) []fq6.El {
	t.Helper()
	var all []fq6.El
	for _, m := range l {
		all = append(all, element(t, m))
	}
	return all
}

// want fails if x isn't the element of m, as its coordinates, as a value, and
// in whether it is told to be 0.
func want(t *testing.T, call string, x fq6.El, m model) {
	t.Helper()
	if !told(x).same(m) || x != element(t, m) {
		t.Errorf("%s is %v, not %v", call, told(x), m)
	}
	if x.IsZero() != m.zero() {
		t.Errorf("%s, that is %v, is zero: %v", call, m, x.IsZero())
	}
}

// numbers makes numbers by a rule, so that every run has the same ones: each
// is the one before, times a number, and one more.
type numbers struct{ last *big.Int }

// next is one of 512 bits.
func (n *numbers) next() *big.Int {
	if n.last == nil {
		n.last = big.NewInt(1)
	}
	all := new(big.Int).Lsh(big.NewInt(1), 576)
	n.last = new(big.Int).Mul(n.last, bigOf([]uint64{0x9e3779b97f4a7c15, 0xbf58476d1ce4e5b9, 0x94d049bb133111eb}))
	n.last.Add(n.last, big.NewInt(1)).And(n.last, all.Sub(all, big.NewInt(1)))
	return new(big.Int).Rsh(n.last, 64)
}

// edges are numbers by q at which calls may go astray.
func edges() []*big.Int {
	half := new(big.Int).Rsh(q(), 1)
	return []*big.Int{
		big.NewInt(1), big.NewInt(-1), big.NewInt(5), big.NewInt(-5), half, new(big.Int).Add(half, big.NewInt(1)),
		new(big.Int).SetUint64(1<<64 - 1), byQ(new(big.Int).Lsh(big.NewInt(1), 376)),
	}
}

// shaped is of six numbers those whose bits stand in shape, and 0 in place of
// the others.
func shaped(shape int, next func() *big.Int) model {
	m := small(0, 0, 0, 0, 0, 0)
	for i := range m {
		if shape>>i&1 == 1 {
			m[i] = byQ(next())
		}
	}
	return m
}

// some are models: of each choice of the six numbers that are not 0, one of
// edges and one of other numbers, then count of other ones.
func some(count int) []model {
	var l []model
	var others numbers
	at := 0
	edge := func() *big.Int {
		at++
		return edges()[at*at%len(edges())]
	}
	for shape := range 64 {
		l = append(l, shaped(shape, edge), shaped(shape, others.next))
	}
	for range count {
		l = append(l, shaped(63, others.next))
	}
	return l
}

// few are models for what is asked of every two: small ones, then of each choice
// of the parts that are not 0 one of pairs without u and one of pairs with it,
// then count of other ones.
func few(count int) []model {
	l := []model{
		small(1, 0, 0, 0, 0, 0), small(0, 1, 0, 0, 0, 0), small(0, 0, 1, 0, 0, 0), small(0, 0, 0, 1, 0, 0),
		small(0, 0, 0, 0, 1, 0), small(0, 0, 0, 0, 0, 1), small(-1, 0, 0, 0, 0, 0), small(-1, -1, -1, -1, -1, -1),
		small(1, 0, 1, 0, 0, 0), small(1, 0, -1, 0, 0, 0), small(2, -3, 5, -7, 11, -13),
	}
	var others numbers
	for parts := range 8 {
		// The numbers ahead of u in a, b and c are those three places on.
		l = append(l, shaped(parts, others.next), shaped(parts|parts<<3, others.next))
	}
	for range count {
		l = append(l, shaped(63, others.next))
	}
	return l
}
