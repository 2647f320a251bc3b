package fr_test

import (
	"bytes"
	"math/big"
	"slices"
	"testing"

	"marlinspike/api"
	"marlinspike/fr"
)

// r is X^4 - X^2 + 1, by the library's own numbers.
func r() *big.Int {
	x := new(big.Int).SetUint64(api.X)
	square := new(big.Int).Mul(x, x)
	n := new(big.Int).Mul(square, square)
	return n.Sub(n, square).Add(n, big.NewInt(1))
}

// offR is r and some more, or less.
func offR(more int64) *big.Int { return new(big.Int).Add(r(), big.NewInt(more)) }

// power is 2^n, and some more or less.
func power(n uint, more int64) *big.Int {
	b := new(big.Int).Lsh(big.NewInt(1), n)
	return b.Add(b, big.NewInt(more))
}

// byR is the number from 0 to r - 1.
func byR(b *big.Int) *big.Int { return new(big.Int).Mod(b, r()) }

// bigOf is the number of words, by the library's own ones.
func bigOf(w []uint64) *big.Int {
	b := new(big.Int)
	for _, x := range slices.Backward(w) {
		b.Lsh(b, 64).Or(b, new(big.Int).SetUint64(x))
	}
	return b
}

// fromBig are the words of a number, in form.
func fromBig(b *big.Int) []uint64 {
	var w []uint64
	low := new(big.Int).SetUint64(1<<64 - 1)
	for b = new(big.Int).Set(b); b.Sign() > 0; b.Rsh(b, 64) {
		w = append(w, new(big.Int).And(b, low).Uint64())
	}
	return w
}

// bytesOf are the 32 bytes of a number, the highest first.
func bytesOf(b *big.Int) (s api.Scalar) {
	b.FillBytes(s[:])
	return s
}

// scalar is that of a number, by r.
func scalar(t *testing.T, b *big.Int) fr.El {
	t.Helper()
	x, e := fr.From(bytesOf(byR(b)))
	if e != api.OK {
		t.Fatalf("From(%x): %v", byR(b), e)
	}
	return x
}

// scalars are those of numbers.
func scalars(t *testing.T, l []*big.Int) []fr.El {
	t.Helper()
	var all []fr.El
	for _, b := range l {
		all = append(all, scalar(t, b))
	}
	return all
}

// want fails if x isn't the scalar of b by r, as its number, as its bytes and as
// a value.
func want(t *testing.T, call string, x fr.El, b *big.Int) {
	t.Helper()
	b = byR(b)
	if got := x.Nat(); !slices.Equal(got, fromBig(b)) {
		t.Errorf("%s is %x, not %x", call, got, b)
	}
	s := bytesOf(b)
	if got := x.Scalar(); !bytes.Equal(got[:], s[:]) {
		t.Errorf("%s has the bytes %x, not %x", call, got, s)
	}
	if x.IsZero() != (b.Sign() == 0) {
		t.Errorf("%s, that is %x, is zero: %v", call, b, x.IsZero())
	}
	if x != scalar(t, b) {
		t.Errorf("%s is another value than From's of %x", call, b)
	}
}

// numbers makes numbers by a rule, so that every run has the same ones: each
// is the one before, times a number, and one more.
type numbers struct{ last *big.Int }

// next is one of 512 bits.
func (n *numbers) next() *big.Int {
	if n.last == nil {
		n.last = big.NewInt(1)
	}
	n.last = new(big.Int).Mul(n.last, bigOf([]uint64{0x9e3779b97f4a7c15, 0xbf58476d1ce4e5b9, 0x94d049bb133111eb}))
	n.last.Add(n.last, big.NewInt(1)).And(n.last, power(576, -1))
	return new(big.Int).Rsh(n.last, 64)
}

// some are numbers below r: the edges, then count others.
func some(count int) []*big.Int {
	var l []*big.Int
	half := new(big.Int).Rsh(r(), 1)
	for n := range int64(4) {
		l = append(l, big.NewInt(n), offR(-n), new(big.Int).Add(half, big.NewInt(n)))
	}
	for _, bit := range []uint{63, 64, 127, 128, 192, 252} { // words of 0, words of the greatest
		l = append(l, power(bit, 0), power(bit, -1), new(big.Int).Sub(r(), power(bit, 0)))
	}
	var others numbers
	for range count {
		l = append(l, others.next())
	}
	for i, b := range l {
		l[i] = byR(b)
	}
	return l
}
