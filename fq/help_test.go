package fq_test

import (
	"math/big"
	"slices"
	"testing"

	"marlinspike/api"
	"marlinspike/fq"
)

// q is (X - 1)^2 (X^4 - X^2 + 1) / 3 + X, by the library's own numbers.
func q() *big.Int {
	x := new(big.Int).SetUint64(api.X)
	square := new(big.Int).Mul(x, x)
	r := new(big.Int).Mul(square, square)
	r.Sub(r, square).Add(r, big.NewInt(1))
	less := new(big.Int).Sub(x, big.NewInt(1))
	n := new(big.Int).Mul(less, less)
	return n.Mul(n, r).Div(n, big.NewInt(3)).Add(n, x)
}

// offQ is q and some more, or less.
func offQ(more int64) *big.Int { return new(big.Int).Add(q(), big.NewInt(more)) }

// half is (q - 1) / 2, the greatest number that is not great, and some more or less.
func half(more int64) *big.Int {
	b := new(big.Int).Rsh(q(), 1)
	return b.Add(b, big.NewInt(more))
}

// power is 2^n, and some more or less.
func power(n uint, more int64) *big.Int {
	b := new(big.Int).Lsh(big.NewInt(1), n)
	return b.Add(b, big.NewInt(more))
}

// byQ is the number from 0 to q - 1.
func byQ(b *big.Int) *big.Int { return new(big.Int).Mod(b, q()) }

// bigOf is the number of words, by the library's own ones.
func bigOf(w []uint64) *big.Int {
	b := new(big.Int)
	for _, x := range slices.Backward(w) {
		b.Lsh(b, 64).Or(b, new(big.Int).SetUint64(x))
	}
	return b
}

// fromBig are the words of a number, in form.
func fromBig(b *big.Int) []uint64 {
	var w []uint64
	low := new(big.Int).SetUint64(1<<64 - 1)
	for b = new(big.Int).Set(b); b.Sign() > 0; b.Rsh(b, 64) {
		w = append(w, new(big.Int).And(b, low).Uint64())
	}
	return w
}

// bytesOf are the 48 bytes of a number, the highest first.
func bytesOf(b *big.Int) (l [48]byte) {
	b.FillBytes(l[:])
	return l
}

// coordinate is that of a number, by q.
func coordinate(t *testing.T, b *big.Int) fq.El {
	t.Helper()
	x, e := fq.From(bytesOf(byQ(b)))
	if e != api.OK {
		t.Fatalf("From(%x): %v", byQ(b), e)
	}
	return x
}

// coordinates are those of numbers.
func coordinates(t *testing.T, l []*big.Int) []fq.El {
	t.Helper()
	var all []fq.El
	for _, b := range l {
		all = append(all, coordinate(t, b))
	}
	return all
}

// want fails if x isn't the coordinate of b by q, as its number, as its bytes,
// as a value, and in what it is told to be.
func want(t *testing.T, call string, x fq.El, b *big.Int) {
	t.Helper()
	b = byQ(b)
	if got := x.Nat(); !slices.Equal(got, fromBig(b)) {
		t.Errorf("%s is %x, not %x", call, got, b)
	}
	if got := x.Bytes(); got != bytesOf(b) {
		t.Errorf("%s has the bytes %x, not %x", call, got, bytesOf(b))
	}
	if x.IsZero() != (b.Sign() == 0) {
		t.Errorf("%s, that is %x, is zero: %v", call, b, x.IsZero())
	}
	if x.Great() != (b.Cmp(half(0)) > 0) {
		t.Errorf("%s, that is %x, is great: %v", call, b, x.Great())
	}
	if x != coordinate(t, b) {
		t.Errorf("%s is another value than From's of %x", call, b)
	}
}

// numbers makes numbers by a rule, so that every run has the same ones: each
// is the one before, times a number, and one more.
type numbers struct{ last *big.Int }

// next is one of 512 bits.
func (n *numbers) next() *big.Int {
	if n.last == nil {
		n.last = big.NewInt(1)
	}
	n.last = new(big.Int).Mul(n.last, bigOf([]uint64{0x9e3779b97f4a7c15, 0xbf58476d1ce4e5b9, 0x94d049bb133111eb}))
	n.last.Add(n.last, big.NewInt(1)).And(n.last, power(576, -1))
	return new(big.Int).Rsh(n.last, 64)
}

// some are numbers below q: the edges, then count others.
func some(count int) []*big.Int {
	var l []*big.Int
	for n := range int64(4) {
		l = append(l, big.NewInt(n), offQ(-n), half(n-1))
	}
	for _, bit := range []uint{63, 64, 127, 128, 192, 256, 320, 376} { // words of 0, words of the greatest
		l = append(l, power(bit, 0), power(bit, -1), new(big.Int).Sub(q(), power(bit, 0)))
	}
	var others numbers
	for range count {
		l = append(l, others.next())
	}
	for i, b := range l {
		l[i] = byQ(b)
	}
	return l
}

// oddPart is the odd number of q - 1, and how often 2 goes into q - 1.
func oddPart() (*big.Int, uint) {
	n := offQ(-1)
	twos := n.TrailingZeroBits()
	return n.Rsh(n, twos), twos
}

// turn is a number whose order is 2^k.
func turn(k uint) *big.Int {
	odd, twos := oddPart()
	least := big.NewInt(2)
	for big.Jacobi(least, q()) != -1 {
		least.Add(least, big.NewInt(1))
	}
	odd.Lsh(odd, twos-k)
	return least.Exp(least, odd, q())
}
