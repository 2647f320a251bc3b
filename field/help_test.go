package field_test

import (
	"math/big"
	"slices"
	"testing"

	"marlinspike/api"
	"marlinspike/field"
)

// own is a size by another name.
type own [6]uint64

// test is what a test hands on to its halves, one for each size.
type test struct {
	*testing.T
	words int // of the size
}

// bothSizes runs a test for each size, and for a type whose words are a size's.
func bothSizes(t *testing.T, four, six, named func(t test)) {
	t.Run("4 words", func(t *testing.T) { four(test{t, 4}) })
	t.Run("6 words", func(t *testing.T) { six(test{t, 6}) })
	t.Run("6 words by another name", func(t *testing.T) { named(test{t, 6}) })
}

// power is 2^n, and less or more, in words.
func power(n uint, more int64) []uint64 {
	b := new(big.Int).Lsh(big.NewInt(1), n)
	return fromBig(b.Add(b, big.NewInt(more)))
}

// greatest is the greatest modulus of a size.
func greatest(words int) []uint64 { return power(uint(64*words-1), -1) }

// moduli are some of a size: the edges, such as carries and borrows go far in,
// and primes, the last two of them those that the program is about.
func moduli(words int) [][]uint64 {
	l := [][]uint64{{3}, {5}, {9}, {13}, {1<<63 + 1}, {1<<64 - 1}, {1<<64 - 59}, {1, 1}, {1<<64 - 1, 1}}
	for n := 2; n < words; n++ {
		l = append(l, power(uint(64*n), -1), power(uint(64*n), 1), power(uint(64*n-1), 1))
	}
	end := uint(64 * words)
	l = append(l, greatest(words), power(end-1, -3), power(end-2, 1), power(end-2, -1))
	l = append(l, power(127, -1), power(255, -19), curveOrder())
	if words == 6 {
		l = append(l, curvePrime())
	}
	return l
}

// curveOrder is X^4 - X^2 + 1.
func curveOrder() []uint64 {
	x := new(big.Int).SetUint64(api.X)
	square := new(big.Int).Mul(x, x)
	r := new(big.Int).Mul(square, square)
	return fromBig(r.Sub(r, square).Add(r, big.NewInt(1)))
}

// curvePrime is (X - 1)^2 (X^4 - X^2 + 1) / 3 + X.
func curvePrime() []uint64 {
	x := new(big.Int).SetUint64(api.X)
	less := new(big.Int).Sub(x, big.NewInt(1))
	q := new(big.Int).Mul(less, less)
	q.Mul(q, bigOf(curveOrder())).Div(q, big.NewInt(3))
	return fromBig(q.Add(q, x))
}

// numbers makes numbers by a rule, so that every run has the same ones: each
// is the one before, times a number, and one more.
type numbers struct{ last *big.Int }

// below is a number less than m.
func (n *numbers) below(m *big.Int) *big.Int {
	if n.last == nil {
		n.last = big.NewInt(1)
	}
	n.last = new(big.Int).Mul(n.last, bigOf([]uint64{0x9e3779b97f4a7c15, 0xbf58476d1ce4e5b9, 0x94d049bb133111eb}))
	n.last.Add(n.last, big.NewInt(1)).And(n.last, bigOf(slices.Repeat([]uint64{1<<64 - 1}, 8)))
	return new(big.Int).Mod(new(big.Int).Rsh(n.last, 64), m)
}

// some are numbers below m: the edges, then count others.
func some(m *big.Int, count int) []*big.Int {
	var l []*big.Int
	half := new(big.Int).Rsh(m, 1)
	for _, edge := range []int64{0, 1, 2, 3} {
		b := big.NewInt(edge)
		l = append(l, b, new(big.Int).Sub(m, b), new(big.Int).Add(half, b))
	}
	for i := uint(64); i < uint(m.BitLen()); i += 64 { // words of 0, words of the greatest
		b := new(big.Int).Lsh(big.NewInt(1), i)
		l = append(l, b, new(big.Int).Sub(b, big.NewInt(1)), new(big.Int).Sub(m, b))
	}
	var others numbers
	for range count {
		l = append(l, others.below(m))
	}
	for _, b := range l {
		b.Mod(b, m)
	}
	return l
}

// bigOf is the number by the library's own ones.
func bigOf(w []uint64) *big.Int {
	b := new(big.Int)
	for _, x := range slices.Backward(w) {
		b.Lsh(b, 64).Or(b, new(big.Int).SetUint64(x))
	}
	return b
}

// fromBig is the number in form.
func fromBig(b *big.Int) []uint64 {
	var w []uint64
	low := new(big.Int).SetUint64(1<<64 - 1)
	for b = new(big.Int).Set(b); b.Sign() > 0; b.Rsh(b, 64) {
		w = append(w, new(big.Int).And(b, low).Uint64())
	}
	return w
}

// made is the field of a modulus.
func made[T field.Limbs](t test, m []uint64) *field.Field[T] {
	t.Helper()
	f, e := field.New[T](m)
	if e != api.OK || f == nil {
		t.Fatalf("New(%x): %v", m, e)
	}
	return f
}

// element is that of a number.
func element[T field.Limbs](t test, f *field.Field[T], a ...uint64) T {
	t.Helper()
	x, e := f.From(a)
	if e != api.OK {
		t.Fatalf("From(%x) by %x: %v", a, f.Modulus(), e)
	}
	return x
}

// elements are those of the library's numbers.
func elements[T field.Limbs](t test, f *field.Field[T], l []*big.Int) []T {
	t.Helper()
	var x []T
	for _, b := range l {
		x = append(x, element(t, f, fromBig(b)...))
	}
	return x
}

// want fails if x isn't the element of b by the field's modulus: the number
// must be that, and the array the one that From tells.
func want[T field.Limbs](t test, f *field.Field[T], call string, x T, b *big.Int) {
	t.Helper()
	m := f.Modulus()
	b = new(big.Int).Mod(b, bigOf(m))
	if got := f.Nat(x); !slices.Equal(got, fromBig(b)) {
		t.Errorf("%s by %x is %x, not %x", call, m, got, b)
	}
	if x != element(t, f, fromBig(b)...) {
		t.Errorf("%s by %x is another array than From's", call, m)
	}
}
