package fr_test

import (
	"bytes"
	"math"
	"math/big"
	"slices"
	"testing"

	"marlinspike/api"
	"marlinspike/fr"
)

// P3.1

func TestModulus(t *testing.T) {
	if got := fr.Modulus(); !slices.Equal(got, fromBig(r())) {
		t.Errorf("Modulus is %x, not %x", got, r())
	}
	if !r().ProbablyPrime(20) {
		t.Error("X^4 - X^2 + 1 is no prime number")
	}
}

func TestOf(t *testing.T) {
	l := []int64{0, 1, 2, 3, 10, 255, 256, 1<<31 - 1, 1 << 32, 1<<53 + 1, math.MaxInt64 - 1, math.MaxInt64}
	for _, n := range l {
		want(t, "Of", fr.Of(n), big.NewInt(n))
		want(t, "Of", fr.Of(-n), big.NewInt(-n))
	}
	want(t, "Of(the least)", fr.Of(math.MinInt64), big.NewInt(math.MinInt64))
	want(t, "Of(the least but one)", fr.Of(math.MinInt64+1), big.NewInt(math.MinInt64+1))
}

func TestFrom(t *testing.T) {
	for _, b := range some(200) {
		x, e := fr.From(bytesOf(b))
		if e != api.OK {
			t.Errorf("From(%x): %v", b, e)
		}
		want(t, "From", x, b)
	}
	if x, e := fr.From(api.Scalar{}); e != api.OK || x != (fr.El{}) {
		t.Errorf("From(0): %v", e)
	}
}

func TestFromRefuses(t *testing.T) {
	l := []*big.Int{r(), offR(1), offR(2), new(big.Int).Lsh(r(), 1), power(253, -1), power(253, 0), power(255, 0), power(255, 1), power(256, -1)}
	for bit := range uint(253) { // each byte plays its part
		if above := new(big.Int).Add(r(), power(bit, 0)); above.BitLen() <= 256 {
			l = append(l, above)
		}
	}
	for _, b := range l {
		if x, e := fr.From(bytesOf(b)); x != (fr.El{}) || e != api.ErrField {
			t.Errorf("From(%x): %v, %v", b, x.Nat(), e)
		}
	}
	for bit := range uint(253) {
		if under := new(big.Int).Sub(r(), power(bit, 0)); under.Sign() >= 0 {
			want(t, "From, below r", scalar(t, under), under)
		}
	}
}

func TestReduce(t *testing.T) {
	var others numbers
	for n := range 65 {
		l := [][]byte{make([]byte, n), bytes.Repeat([]byte{0xff}, n)}
		for range 5 {
			l = append(l, others.next().FillBytes(make([]byte, 64))[:n])
		}
		for _, b := range l {
			x, e := fr.Reduce(b)
			if e != api.OK {
				t.Errorf("Reduce(%x): %v", b, e)
			}
			want(t, "Reduce", x, new(big.Int).SetBytes(b))
		}
	}
	for _, b := range []*big.Int{r(), offR(-1), offR(1), new(big.Int).Lsh(r(), 1), new(big.Int).Mul(r(), r()), power(253, 0), power(256, 0)} {
		for _, n := range []int{64, (b.BitLen() + 7) / 8} {
			x, e := fr.Reduce(b.FillBytes(make([]byte, n)))
			if e != api.OK {
				t.Errorf("Reduce(%x): %v", b, e)
			}
			want(t, "Reduce", x, b)
		}
	}
	for _, none := range [][]byte{nil, {}} {
		if x, e := fr.Reduce(none); e != api.OK || x != (fr.El{}) {
			t.Errorf("Reduce of no bytes: %v, %v", x, e)
		}
	}
}

func TestReduceRefuses(t *testing.T) {
	for _, n := range []int{65, 66, 72, 128, 639, 640, 641, 100000} {
		for _, b := range [][]byte{make([]byte, n), bytes.Repeat([]byte{0xff}, n), append(make([]byte, n-1), 7)} {
			if x, e := fr.Reduce(b); x != (fr.El{}) || e != api.ErrLong {
				t.Errorf("Reduce of %d bytes: %v, %v", n, x, e)
			}
		}
	}
}

// P3.2

func TestNumberAndBytes(t *testing.T) {
	for _, b := range some(100) {
		want(t, "From", scalar(t, b), b)
	}
	s := fr.Of(0x010203).Scalar()
	if s != (api.Scalar{29: 1, 30: 2, 31: 3}) {
		t.Errorf("the bytes of 0x010203 are %x", s)
	}
	want(t, "the zero one", fr.El{}, new(big.Int))
	if got := (fr.El{}).Scalar(); got != (api.Scalar{}) {
		t.Errorf("the bytes of the zero one are %x", got)
	}
}

func TestIsZero(t *testing.T) {
	for _, x := range []fr.El{{}, fr.Of(0), fr.Of(7).Sub(fr.Of(7)), fr.Of(0).Neg(), fr.Of(0).Mul(fr.Of(9))} {
		if !x.IsZero() || x != (fr.El{}) {
			t.Errorf("a 0 is %v", x)
		}
	}
	for _, b := range some(40) {
		if b.Sign() > 0 && scalar(t, b).IsZero() {
			t.Errorf("%x is zero", b)
		}
	}
}

func TestAgainstLibrary(t *testing.T) {
	l := some(30)
	x := scalars(t, l)
	for i, a := range l {
		want(t, "Neg", x[i].Neg(), new(big.Int).Neg(a))
		for j, b := range l {
			want(t, "Add", x[i].Add(x[j]), new(big.Int).Add(a, b))
			want(t, "Sub", x[i].Sub(x[j]), new(big.Int).Sub(a, b))
			want(t, "Mul", x[i].Mul(x[j]), new(big.Int).Mul(a, b))
		}
	}
}

func TestSmallNumbers(t *testing.T) {
	for a := int64(-12); a <= 12; a++ {
		if x := fr.Of(a); x.Neg() != fr.Of(-a) {
			t.Errorf("-%d", a)
		}
		for b := int64(-12); b <= 12; b++ {
			x, y := fr.Of(a), fr.Of(b)
			if x.Add(y) != fr.Of(a+b) || x.Sub(y) != fr.Of(a-b) || x.Mul(y) != fr.Of(a*b) || (x == y) != (a == b) {
				t.Errorf("%d and %d", a, b)
			}
		}
	}
}

func TestPow(t *testing.T) {
	ones := slices.Repeat([]uint64{1<<64 - 1}, api.MaxWords+3)
	exponents := [][]uint64{nil, {}, {0}, {0, 0, 0}, {1}, {1, 0, 0}, {2}, {3}, {64}, {1 << 63}, {1<<64 - 1}, {0, 1}, {1, 1}, {5, 6, 7, 8},
		ones[:4], ones[:5], fromBig(r()), fromBig(offR(-1)), fromBig(offR(-2)), fromBig(offR(1)), {9, 0, 0, 0, 0, 0, 7},
		make([]uint64, api.MaxWords+1), append([]uint64{6}, make([]uint64, api.MaxWords)...)}
	long := [][]uint64{ones[:api.MaxWords], ones, append(make([]uint64, api.MaxWords+1), 5)}
	for i, base := range some(3) {
		l := exponents
		if i == 6 { // 2
			l = append(l, long...)
		}
		x := scalar(t, base)
		for _, e := range l {
			want(t, "Pow", x.Pow(e), new(big.Int).Exp(base, bigOf(e), r()))
		}
	}
	if (fr.El{}).Pow(nil) != fr.Of(1) || (fr.El{}).Pow([]uint64{0, 0}) != fr.Of(1) || (fr.El{}).Pow(ones) != (fr.El{}) {
		t.Error("powers of 0")
	}
}

// P3.3

func TestInv(t *testing.T) {
	for _, b := range some(100) {
		if b.Sign() == 0 {
			continue
		}
		x, e := scalar(t, b).Inv()
		if e != api.OK {
			t.Errorf("Inv(%x): %v", b, e)
		}
		want(t, "Inv", x, new(big.Int).ModInverse(b, r()))
	}
}

func TestInvRefuses(t *testing.T) {
	for _, zero := range []fr.El{{}, fr.Of(0), fr.Of(3).Sub(fr.Of(3))} {
		if x, e := zero.Inv(); x != (fr.El{}) || e != api.ErrZero {
			t.Errorf("Inv(0): %v, %v", x, e)
		}
	}
}

func TestInvert(t *testing.T) {
	l := some(60)
	l = slices.DeleteFunc(l, func(b *big.Int) bool { return b.Sign() == 0 })
	l = append(l, l[3], l[3], big.NewInt(1), big.NewInt(1)) // some of them more than once
	x := scalars(t, l)
	for n := range len(x) + 1 {
		got, e := fr.Invert(x[:n])
		if e != api.OK || len(got) != n {
			t.Fatalf("Invert of %d: %d, %v", n, len(got), e)
		}
		for i, y := range got {
			alone, _ := x[i].Inv()
			if y != alone {
				t.Errorf("Invert of %d: the inverse at %d is %x, not %x", n, i, y.Nat(), alone.Nat())
			}
		}
	}
	for _, none := range [][]fr.El{nil, {}} {
		if got, e := fr.Invert(none); e != api.OK || len(got) != 0 {
			t.Errorf("Invert of none: %v, %v", got, e)
		}
	}
}

func TestInvertRefuses(t *testing.T) {
	for n := 1; n < 12; n++ {
		for i := range n {
			for j := range n {
				l := make([]fr.El, n)
				for k := range l {
					l[k] = fr.Of(int64(k + 2))
				}
				l[i], l[j] = fr.El{}, fr.Of(0)
				if got, e := fr.Invert(l); len(got) != 0 || e != api.ErrZero {
					t.Errorf("Invert of %d with 0 at %d and %d: %v, %v", n, i, j, got, e)
				}
			}
		}
	}
	if got, e := fr.Invert(make([]fr.El, 1000)); len(got) != 0 || e != api.ErrZero {
		t.Errorf("Invert of a thousand 0: %v, %v", got, e)
	}
}

// P3.4

func TestRoot(t *testing.T) {
	least := big.NewInt(2)
	for big.Jacobi(least, r()) != -1 {
		least.Add(least, big.NewInt(1))
	}
	for k := range 48 {
		x, e := fr.Root(1 << k)
		if e != api.OK {
			t.Errorf("Root(2^%d): %v", k, e)
		}
		exponent := new(big.Int).Rsh(offR(-1), uint(k))
		want(t, "Root", x, new(big.Int).Exp(least, exponent, r()))
	}
}

func TestRootRefuses(t *testing.T) {
	l := []int{0, -1, -2, -4, -1 << 47, math.MinInt, math.MinInt + 1, math.MaxInt, math.MaxInt - 1, 1<<47 + 1, 1<<47 - 1, 1<<47 + 1<<46}
	for k := 48; k < 63; k++ {
		l = append(l, 1<<k, -1<<k)
	}
	for n := range 1100 {
		if n&(n-1) != 0 {
			l = append(l, n, -n, n<<36)
		}
	}
	for k := 2; k < 47; k++ {
		l = append(l, 1<<k-1, 1<<k+1, 3<<(k-1))
	}
	for _, n := range l {
		if x, e := fr.Root(n); x != (fr.El{}) || e != api.ErrSize {
			t.Errorf("Root(%d): %x, %v", n, x.Nat(), e)
		}
	}
}

// The document's examples.
func TestExamples(t *testing.T) {
	if !fr.Of(-1).Add(fr.Of(1)).IsZero() {
		t.Error("-1 and 1")
	}
	third, e := fr.Of(3).Inv()
	if e != api.OK || fr.Of(3).Mul(third) != fr.Of(1) {
		t.Errorf("a third: %v", e)
	}
	one, e := fr.Root(1)
	if e != api.OK || one != fr.Of(1) {
		t.Errorf("Root(1): %v", e)
	}
	minus, e := fr.Root(2)
	if e != api.OK || minus != fr.Of(-1) {
		t.Errorf("Root(2): %v", e)
	}
	for _, n := range []int{3, 1 << 48} {
		if _, e := fr.Root(n); e != api.ErrSize {
			t.Errorf("Root(%d): %v", n, e)
		}
	}
	if _, e := fr.From(api.Scalar(bytes.Repeat([]byte{0xff}, 32))); e != api.ErrField {
		t.Errorf("From: %v", e)
	}
}
