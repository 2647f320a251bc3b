package fq_test

import (
	"bytes"
	"math"
	"math/big"
	"slices"
	"testing"

	"marlinspike/api"
	"marlinspike/fq"
)

// P4.1

func TestModulus(t *testing.T) {
	if got := fq.Modulus(); !slices.Equal(got, fromBig(q())) {
		t.Errorf("Modulus is %x, not %x", got, q())
	}
	if !q().ProbablyPrime(20) {
		t.Error("q is no prime number")
	}
	if _, twos := oddPart(); twos != 46 {
		t.Errorf("2 goes into q - 1 %d times", twos)
	}
}

func TestOf(t *testing.T) {
	l := []int64{0, 1, 2, 3, 10, 255, 256, 1<<31 - 1, 1 << 32, 1<<53 + 1, math.MaxInt64 - 1, math.MaxInt64}
	for _, n := range l {
		want(t, "Of", fq.Of(n), big.NewInt(n))
		want(t, "Of", fq.Of(-n), big.NewInt(-n))
	}
	want(t, "Of(the least)", fq.Of(math.MinInt64), big.NewInt(math.MinInt64))
	want(t, "Of(the least but one)", fq.Of(math.MinInt64+1), big.NewInt(math.MinInt64+1))
}

func TestFrom(t *testing.T) {
	for _, b := range some(200) {
		x, e := fq.From(bytesOf(b))
		if e != api.OK {
			t.Errorf("From(%x): %v", b, e)
		}
		want(t, "From", x, b)
	}
	if x, e := fq.From([48]byte{}); e != api.OK || x != (fq.El{}) {
		t.Errorf("From(0): %v", e)
	}
	if x, e := fq.From(bytesOf(offQ(-1))); e != api.OK || x != fq.Of(-1) {
		t.Errorf("From(q - 1): %v", e)
	}
}

func TestFromRefuses(t *testing.T) {
	l := []*big.Int{q(), offQ(1), offQ(2), new(big.Int).Lsh(q(), 1), power(377, -1), power(377, 0), power(383, 0), power(383, 1), power(384, -1)}
	for bit := range uint(384) { // each byte plays its part
		if above := new(big.Int).Add(q(), power(bit, 0)); above.BitLen() <= 384 {
			l = append(l, above)
		}
	}
	for _, b := range l {
		if x, e := fq.From(bytesOf(b)); x != (fq.El{}) || e != api.ErrField {
			t.Errorf("From(%x): %x, %v", b, x.Nat(), e)
		}
	}
	for bit := range uint(377) {
		if under := new(big.Int).Sub(q(), power(bit, 0)); under.Sign() >= 0 {
			want(t, "From, below q", coordinate(t, under), under)
		}
	}
}

// P4.2

func TestNumberAndBytes(t *testing.T) {
	for _, b := range some(100) {
		want(t, "From", coordinate(t, b), b)
	}
	if got := fq.Of(0x010203).Bytes(); got != [48]byte{45: 1, 46: 2, 47: 3} {
		t.Errorf("the bytes of 0x010203 are %x", got)
	}
	want(t, "the zero one", fq.El{}, new(big.Int))
	if got := (fq.El{}).Bytes(); got != [48]byte{} {
		t.Errorf("the bytes of the zero one are %x", got)
	}
}

func TestIsZero(t *testing.T) {
	for _, x := range []fq.El{{}, fq.Of(0), fq.Of(7).Sub(fq.Of(7)), fq.Of(0).Neg(), fq.Of(0).Mul(fq.Of(9)), fq.Of(-1).Add(fq.Of(1))} {
		if !x.IsZero() || x != (fq.El{}) {
			t.Errorf("a 0 is %v", x)
		}
	}
	for _, b := range some(40) {
		if b.Sign() > 0 && coordinate(t, b).IsZero() {
			t.Errorf("%x is zero", b)
		}
	}
}

func TestGreat(t *testing.T) {
	for n := range int64(20) {
		if coordinate(t, half(-n)).Great() {
			t.Errorf("(q - 1) / 2 without %d is great", n)
		}
		if !coordinate(t, half(n+1)).Great() {
			t.Errorf("(q - 1) / 2 and %d more is not great", n+1)
		}
		if fq.Of(n).Great() || !fq.Of(-n-1).Great() {
			t.Errorf("%d or %d", n, -n-1)
		}
	}
	for bit := range uint(375) { // each word plays its part
		below := new(big.Int).Sub(half(0), power(bit, 0))
		above := new(big.Int).Add(half(0), power(bit, 0))
		if coordinate(t, below).Great() || !coordinate(t, above).Great() {
			t.Errorf("2^%d from (q - 1) / 2", bit)
		}
	}
}

func TestAgainstLibrary(t *testing.T) {
	l := some(30)
	x := coordinates(t, l)
	for i, a := range l {
		want(t, "Neg", x[i].Neg(), new(big.Int).Neg(a))
		for j, b := range l {
			want(t, "Add", x[i].Add(x[j]), new(big.Int).Add(a, b))
			want(t, "Sub", x[i].Sub(x[j]), new(big.Int).Sub(a, b))
			want(t, "Mul", x[i].Mul(x[j]), new(big.Int).Mul(a, b))
		}
	}
}

func TestSmallNumbers(t *testing.T) {
	for a := int64(-12); a <= 12; a++ {
		if x := fq.Of(a); x.Neg() != fq.Of(-a) {
			t.Errorf("-%d", a)
		}
		for b := int64(-12); b <= 12; b++ {
			x, y := fq.Of(a), fq.Of(b)
			if x.Add(y) != fq.Of(a+b) || x.Sub(y) != fq.Of(a-b) || x.Mul(y) != fq.Of(a*b) || (x == y) != (a == b) {
				t.Errorf("%d and %d", a, b)
			}
		}
	}
}

func TestPow(t *testing.T) {
	ones := slices.Repeat([]uint64{1<<64 - 1}, api.MaxWords+3)
	exponents := [][]uint64{nil, {}, {0}, {0, 0, 0}, {1}, {1, 0, 0}, {2}, {3}, {64}, {1 << 63}, {1<<64 - 1}, {0, 1}, {1, 1}, {5, 6, 7, 8},
		ones[:6], ones[:7], fromBig(q()), fromBig(offQ(-1)), fromBig(offQ(-2)), fromBig(offQ(1)), fromBig(half(0)), {9, 0, 0, 0, 0, 0, 0, 0, 7},
		make([]uint64, api.MaxWords+1), append([]uint64{6}, make([]uint64, api.MaxWords)...)}
	long := [][]uint64{ones[:api.MaxWords], ones, append(make([]uint64, api.MaxWords+1), 5)}
	for i, base := range some(3) {
		l := exponents
		if i == 6 { // 2
			l = append(slices.Clone(l), long...)
		}
		x := coordinate(t, base)
		for _, e := range l {
			want(t, "Pow", x.Pow(e), new(big.Int).Exp(base, bigOf(e), q()))
		}
	}
	if (fq.El{}).Pow(nil) != fq.Of(1) || (fq.El{}).Pow([]uint64{0, 0}) != fq.Of(1) || (fq.El{}).Pow(ones) != (fq.El{}) {
		t.Error("powers of 0")
	}
}

// P4.3

func TestInv(t *testing.T) {
	for _, b := range some(100) {
		if b.Sign() == 0 {
			continue
		}
		x, e := coordinate(t, b).Inv()
		if e != api.OK {
			t.Errorf("Inv(%x): %v", b, e)
		}
		want(t, "Inv", x, new(big.Int).ModInverse(b, q()))
	}
}

func TestInvRefuses(t *testing.T) {
	for _, zero := range []fq.El{{}, fq.Of(0), fq.Of(3).Sub(fq.Of(3))} {
		if x, e := zero.Inv(); x != (fq.El{}) || e != api.ErrZero {
			t.Errorf("Inv(0): %x, %v", x.Nat(), e)
		}
	}
}

// wantRoot fails if the root of x, whose number is b, isn't as the library
// tells of b: whether there is one, and of the two the one that is not great.
func wantRoot(t *testing.T, x fq.El, b *big.Int) {
	t.Helper()
	root, e := x.Sqrt()
	if big.Jacobi(b, q()) == -1 {
		if root != (fq.El{}) || e != api.ErrRoot {
			t.Errorf("Sqrt(%x), that has none: %x, %v", b, root.Nat(), e)
		}
		return
	}
	if e != api.OK {
		t.Errorf("Sqrt(%x): %v", b, e)
		return
	}
	least := new(big.Int).ModSqrt(b, q())
	if least.Cmp(half(0)) > 0 {
		least.Sub(q(), least)
	}
	want(t, "Sqrt", root, least)
}

func TestSqrt(t *testing.T) {
	for _, b := range some(100) {
		x := coordinate(t, b)
		wantRoot(t, x, b)
		wantRoot(t, x.Neg(), byQ(new(big.Int).Neg(b)))
		wantRoot(t, x.Mul(x), byQ(new(big.Int).Mul(b, b)))
		wantRoot(t, x.Mul(x).Neg(), byQ(new(big.Int).Neg(new(big.Int).Mul(b, b))))
	}
	for n := range int64(200) {
		wantRoot(t, fq.Of(n), big.NewInt(n))
		wantRoot(t, fq.Of(-n), byQ(big.NewInt(-n)))
	}
}

func TestSqrtOfSquares(t *testing.T) {
	if root, e := (fq.El{}).Sqrt(); root != (fq.El{}) || e != api.OK {
		t.Errorf("Sqrt(0): %x, %v", root.Nat(), e)
	}
	if root, e := fq.Of(1).Sqrt(); root != fq.Of(1) || e != api.OK {
		t.Errorf("Sqrt(1): %x, %v", root.Nat(), e)
	}
	for _, b := range some(60) {
		x := coordinate(t, b)
		not := x // of x and its negative the one that is not great
		if b.Cmp(half(0)) > 0 {
			not = x.Neg()
		}
		root, e := x.Mul(x).Sqrt()
		if root != not || e != api.OK {
			t.Errorf("the root of %x's square is %x, %v", b, root.Nat(), e)
		}
	}
}

// A root is sought in as many rounds as the numbers of orders that are powers
// of 2 need: of each of these orders, with and without an odd one, some.
func TestSqrtInAllRounds(t *testing.T) {
	odd, twos := oddPart()
	var others numbers
	for k := range twos + 1 {
		for n := range 4 {
			b := turn(k)
			b.Exp(b, big.NewInt(int64(2*n+1)), q())
			x := coordinate(t, b)
			wantRoot(t, x, b)
			if _, e := x.Sqrt(); (e == api.OK) != (k < twos) {
				t.Errorf("a number of the order 2^%d: %v", k, e)
			}
			more := new(big.Int).Exp(others.next(), power(twos, 0), q()) // its order is odd
			if new(big.Int).Exp(more, odd, q()).Cmp(big.NewInt(1)) != 0 {
				t.Fatalf("%x to the odd number", more)
			}
			b.Mul(b, more).Mod(b, q())
			wantRoot(t, coordinate(t, b), b)
		}
	}
	for bits := range 64 { // rounds in any order: every sixth one, with others between left out
		b := big.NewInt(1)
		for i := range 6 {
			if bits>>i&1 == 1 {
				b.Mul(b, turn(uint(7*i+5))).Mod(b, q())
			}
		}
		wantRoot(t, coordinate(t, b), b)
	}
}

func TestSqrtRefuses(t *testing.T) {
	for _, n := range []int64{5, -5, 10, -10, 11, -11, 15, 20, -20, 45} {
		if root, e := fq.Of(n).Sqrt(); root != (fq.El{}) || e != api.ErrRoot {
			t.Errorf("Sqrt(%d): %x, %v", n, root.Nat(), e)
		}
	}
	for _, b := range some(30) {
		if b.Sign() == 0 {
			continue
		}
		x := coordinate(t, b)
		for _, none := range []fq.El{x.Mul(x).Mul(fq.Of(5)), x.Mul(x).Mul(fq.Of(-5))} {
			if root, e := none.Sqrt(); root != (fq.El{}) || e != api.ErrRoot {
				t.Errorf("Sqrt of %x's square, 5 times or -5 times: %x, %v", b, root.Nat(), e)
			}
		}
	}
}

// The document's examples.
func TestExamples(t *testing.T) {
	if root, e := fq.Of(4).Sqrt(); root != fq.Of(2) || e != api.OK {
		t.Errorf("Sqrt(4): %x, %v", root.Nat(), e)
	}
	if root, e := fq.Of(0).Sqrt(); root != fq.Of(0) || e != api.OK {
		t.Errorf("Sqrt(0): %x, %v", root.Nat(), e)
	}
	if _, e := fq.Of(-5).Sqrt(); e != api.ErrRoot {
		t.Errorf("Sqrt(-5): %v", e)
	}
	if !fq.Of(-1).Great() || fq.Of(1).Great() {
		t.Error("Great")
	}
	if _, e := fq.From([48]byte(bytes.Repeat([]byte{0xff}, 48))); e != api.ErrField {
		t.Errorf("From: %v", e)
	}
	if _, e := fq.Of(0).Inv(); e != api.ErrZero {
		t.Errorf("Inv: %v", e)
	}
}
