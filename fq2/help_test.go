package fq2_test

import (
	"fmt"
	"math/big"
	"slices"
	"testing"

	"marlinspike/api"
	"marlinspike/fq"
	"marlinspike/fq2"
)

// q is (X - 1)^2 (X^4 - X^2 + 1) / 3 + X, by the library's own numbers.
func q() *big.Int {
	x := new(big.Int).SetUint64(api.X)
	square := new(big.Int).Mul(x, x)
	r := new(big.Int).Mul(square, square)
	r.Sub(r, square).Add(r, big.NewInt(1))
	less := new(big.Int).Sub(x, big.NewInt(1))
	n := new(big.Int).Mul(less, less)
	return n.Mul(n, r).Div(n, big.NewInt(3)).Add(n, x)
}

// byQ is the number from 0 to q - 1.
func byQ(b *big.Int) *big.Int { return new(big.Int).Mod(b, q()) }

// offQ is q and some more, or less.
func offQ(more int64) *big.Int { return new(big.Int).Add(q(), big.NewInt(more)) }

// half is (q - 1) / 2, the greatest number that is not great, and some more or less.
func half(more int64) *big.Int {
	b := new(big.Int).Rsh(q(), 1)
	return b.Add(b, big.NewInt(more))
}

// power is 2^n, and some more or less.
func power(n uint, more int64) *big.Int {
	b := new(big.Int).Lsh(big.NewInt(1), n)
	return b.Add(b, big.NewInt(more))
}

// bigOf is the number of words, by the library's own ones.
func bigOf(w []uint64) *big.Int {
	b := new(big.Int)
	for _, x := range slices.Backward(w) {
		b.Lsh(b, 64).Or(b, new(big.Int).SetUint64(x))
	}
	return b
}

// fromBig are the words of a number, in form.
func fromBig(b *big.Int) []uint64 {
	var w []uint64
	low := new(big.Int).SetUint64(1<<64 - 1)
	for b = new(big.Int).Set(b); b.Sign() > 0; b.Rsh(b, 64) {
		w = append(w, new(big.Int).And(b, low).Uint64())
	}
	return w
}

// model is a + b u by the library's own numbers, both from 0 to q - 1.
type model struct{ a, b *big.Int }

func modelOf(a, b *big.Int) model { return model{byQ(a), byQ(b)} }

func small(a, b int64) model { return modelOf(big.NewInt(a), big.NewInt(b)) }

func (m model) String() string { return fmt.Sprintf("%x + %x u", m.a, m.b) }

func (m model) add(n model) model {
	return modelOf(new(big.Int).Add(m.a, n.a), new(big.Int).Add(m.b, n.b))
}

func (m model) neg() model { return modelOf(new(big.Int).Neg(m.a), new(big.Int).Neg(m.b)) }

func (m model) mul(n model) model {
	a, b := new(big.Int).Mul(m.b, n.b), new(big.Int).Mul(m.a, n.b)
	a.Mul(a, big.NewInt(-5)).Add(a, new(big.Int).Mul(m.a, n.a))
	return modelOf(a, b.Add(b, new(big.Int).Mul(m.b, n.a)))
}

func (m model) pow(e *big.Int) model {
	p := small(1, 0)
	for i := e.BitLen() - 1; i >= 0; i-- {
		p = p.mul(p)
		if e.Bit(i) == 1 {
			p = p.mul(m)
		}
	}
	return p
}

func (m model) norm() *big.Int {
	n := new(big.Int).Mul(m.b, m.b)
	n.Mul(n, big.NewInt(5))
	return byQ(n.Add(n, new(big.Int).Mul(m.a, m.a)))
}

func (m model) great() bool {
	if m.b.Sign() == 0 {
		return m.a.Cmp(half(0)) > 0
	}
	return m.b.Cmp(half(0)) > 0
}

func (m model) same(n model) bool { return m.a.Cmp(n.a) == 0 && m.b.Cmp(n.b) == 0 }

func (m model) zero() bool { return m.same(small(0, 0)) }

// told is the model of an element, by what its coordinates tell.
func told(x fq2.El) model { return model{bigOf(x.A.Nat()), bigOf(x.B.Nat())} }

// coordinate is that of a number, by q.
func coordinate(t *testing.T, b *big.Int) fq.El {
	t.Helper()
	var l [48]byte
	byQ(b).FillBytes(l[:])
	x, e := fq.From(l)
	if e != api.OK {
		t.Fatalf("From(%x): %v", byQ(b), e)
	}
	return x
}

// element is that of a model.
func element(t *testing.T, m model) fq2.El {
	t.Helper()
	return fq2.El{A: coordinate(t, m.a), B: coordinate(t, m.b)}
}

// elements are those of models.
func elements(t *testing.T, l []model) []fq2.El {
	t.Helper()
	var all []fq2.El
	for _, m := range l {
		all = append(all, element(t, m))
	}
	return all
}

// want fails if x isn't the element of m, as its coordinates, as a value, and
// in what it is told to be.
func want(t *testing.T, call string, x fq2.El, m model) {
	t.Helper()
	if !told(x).same(m) || x != element(t, m) {
		t.Errorf("%s is %v, not %v", call, told(x), m)
	}
	if x.IsZero() != m.zero() {
		t.Errorf("%s, that is %v, is zero: %v", call, m, x.IsZero())
	}
	if x.Great() != m.great() {
		t.Errorf("%s, that is %v, is great: %v", call, m, x.Great())
	}
}

// numbers makes numbers by a rule, so that every run has the same ones: each
// is the one before, times a number, and one more.
type numbers struct{ last *big.Int }

// next is one of 512 bits.
func (n *numbers) next() *big.Int {
	if n.last == nil {
		n.last = big.NewInt(1)
	}
	n.last = new(big.Int).Mul(n.last, bigOf([]uint64{0x9e3779b97f4a7c15, 0xbf58476d1ce4e5b9, 0x94d049bb133111eb}))
	n.last.Add(n.last, big.NewInt(1)).And(n.last, power(576, -1))
	return new(big.Int).Rsh(n.last, 64)
}

// edges are numbers below q at which calls may go astray.
func edges() []*big.Int {
	return []*big.Int{
		new(big.Int), big.NewInt(1), big.NewInt(5), offQ(-1), offQ(-5),
		half(-1), half(0), half(1), half(2),
		power(64, -1), power(320, 0), byQ(power(376, 0)),
	}
}

// some are models: those of every two edges, and of every edge beside another
// number, then count of other ones.
func some(count int) []model {
	var l []model
	var others numbers
	for _, a := range edges() {
		for _, b := range edges() {
			l = append(l, modelOf(a, b))
		}
		l = append(l, modelOf(a, others.next()), modelOf(others.next(), a))
	}
	for range count {
		l = append(l, modelOf(others.next(), others.next()))
	}
	return l
}

// few are models for what takes long, or is asked of every two.
func few(count int) []model {
	l := []model{
		small(0, 0), small(1, 0), small(-1, 0), small(5, 0), small(-5, 0), modelOf(half(0), big.NewInt(0)), modelOf(half(1), big.NewInt(0)),
		small(0, 1), small(0, -1), small(0, 3), modelOf(big.NewInt(0), half(0)), modelOf(big.NewInt(0), half(1)),
		small(1, 1), small(1, -1), small(-2, 3), modelOf(half(0), half(1)), modelOf(half(1), half(0)),
	}
	var others numbers
	for range count {
		l = append(l, modelOf(others.next(), new(big.Int)), modelOf(new(big.Int), others.next()), modelOf(others.next(), others.next()))
	}
	return l
}
