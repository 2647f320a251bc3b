package fq2_test

import (
	"math"
	"math/big"
	"slices"
	"testing"

	"marlinspike/api"
	"marlinspike/fq"
	"marlinspike/fq2"
)

// P5.1

func TestOf(t *testing.T) {
	l := []int64{0, 1, -1, 2, -5, 255, 1 << 32, -1<<53 - 1, math.MaxInt64, math.MaxInt64 - 1, math.MinInt64, math.MinInt64 + 1}
	for _, a := range l {
		for _, b := range l {
			want(t, "Of", fq2.Of(a, b), small(a, b))
			if fq2.Of(a, b) != (fq2.El{A: fq.Of(a), B: fq.Of(b)}) {
				t.Errorf("Of(%d, %d)", a, b)
			}
		}
	}
}

func TestIsZero(t *testing.T) {
	x := fq2.Of(7, -3)
	for _, zero := range []fq2.El{{}, fq2.Of(0, 0), x.Sub(x), x.Add(x.Neg()), fq2.Of(0, 0).Neg(), x.Mul(fq2.Of(0, 0)), fq2.Of(0, 0).Conj()} {
		if !zero.IsZero() || zero != (fq2.El{}) {
			t.Errorf("a 0 is %v", told(zero))
		}
	}
	for _, m := range some(20) {
		if element(t, m).IsZero() != m.zero() {
			t.Errorf("%v is zero: %v", m, !m.zero())
		}
	}
	for _, x := range []fq2.El{fq2.Of(1, 0), fq2.Of(0, 1), fq2.Of(-1, 0), fq2.Of(0, -1), fq2.Of(1, -1)} {
		if x.IsZero() {
			t.Errorf("%v is zero", told(x))
		}
	}
}

func TestGreat(t *testing.T) {
	zero := new(big.Int)
	table := []struct {
		a, b  *big.Int
		great bool
	}{
		{zero, zero, false},
		{big.NewInt(1), zero, false},
		{big.NewInt(-1), zero, true},
		{half(-1), zero, false},
		{half(0), zero, false},
		{half(1), zero, true},
		{half(2), zero, true},
		{zero, big.NewInt(1), false},
		{zero, big.NewInt(-1), true},
		{zero, half(0), false},
		{zero, half(1), true},
		{big.NewInt(-1), big.NewInt(1), false}, // a counts just where b is 0
		{half(1), half(0), false},
		{half(1), big.NewInt(1), false},
		{big.NewInt(1), big.NewInt(-1), true},
		{half(0), half(1), true},
		{half(1), half(1), true},
		{half(0), half(0), false},
	}
	for _, row := range table {
		m := modelOf(row.a, row.b)
		if got := element(t, m).Great(); got != row.great {
			t.Errorf("%v is great: %v", m, got)
		}
	}
	for _, m := range some(50) {
		if got := element(t, m).Great(); got != m.great() {
			t.Errorf("%v is great: %v", m, got)
		}
	}
}

func TestAgainstLibrary(t *testing.T) {
	l := few(5)
	x := elements(t, l)
	for i, m := range l {
		for j, n := range l {
			want(t, "Add", x[i].Add(x[j]), m.add(n))
			want(t, "Sub", x[i].Sub(x[j]), m.add(n.neg()))
			want(t, "Mul", x[i].Mul(x[j]), m.mul(n))
		}
	}
	l = some(50)
	x = elements(t, l)
	for i, m := range l {
		j := (7*i + 3) % len(l)
		want(t, "Neg", x[i].Neg(), m.neg())
		want(t, "Add", x[i].Add(x[j]), m.add(l[j]))
		want(t, "Sub", x[i].Sub(x[j]), m.add(l[j].neg()))
		want(t, "Mul", x[i].Mul(x[j]), m.mul(l[j]))
		want(t, "Mul, with itself", x[i].Mul(x[i]), m.mul(m))
	}
}

// Of whole numbers a to d, by the rule that u^2 is -5.
func TestSmallNumbers(t *testing.T) {
	const top = 4
	for a := int64(-top); a <= top; a++ {
		for b := int64(-top); b <= top; b++ {
			x := fq2.Of(a, b)
			if x.Neg() != fq2.Of(-a, -b) || x.Conj() != fq2.Of(a, -b) || x.Norm() != fq.Of(a*a+5*b*b) {
				t.Errorf("%d + %d u, alone", a, b)
			}
			for c := int64(-top); c <= top; c++ {
				for d := int64(-top); d <= top; d++ {
					y := fq2.Of(c, d)
					if x.Add(y) != fq2.Of(a+c, b+d) || x.Sub(y) != fq2.Of(a-c, b-d) || x.Mul(y) != fq2.Of(a*c-5*b*d, a*d+b*c) {
						t.Errorf("%d + %d u and %d + %d u", a, b, c, d)
					}
					if (x == y) != (a == c && b == d) {
						t.Errorf("%d + %d u is %d + %d u: %v", a, b, c, d, x == y)
					}
				}
			}
		}
	}
}

func TestPow(t *testing.T) {
	ones := slices.Repeat([]uint64{1<<64 - 1}, api.MaxWords+3)
	exponents := [][]uint64{
		nil, {}, {0}, {0, 0, 0}, {1}, {1, 0, 0}, {2}, {3}, {4}, {5}, {64}, {1 << 63}, {1<<64 - 1},
		{0, 1}, {1, 1}, {0, 0, 1}, {5, 6, 7, 8}, {9, 0, 0, 0, 0, 0, 0, 0, 7},
		fromBig(q()), fromBig(offQ(-1)), fromBig(offQ(1)), fromBig(half(0)), fromBig(new(big.Int).Mul(q(), q())), ones[:13],
		make([]uint64, api.MaxWords+1), append([]uint64{6}, make([]uint64, api.MaxWords)...),
	}
	for _, m := range few(2) {
		x := element(t, m)
		for _, e := range exponents {
			want(t, "Pow", x.Pow(e), m.pow(bigOf(e)))
		}
	}
	for _, e := range [][]uint64{ones[:api.MaxWords], ones, append(make([]uint64, api.MaxWords+1), 5)} {
		want(t, "Pow, of many words", fq2.Of(2, 3).Pow(e), small(2, 3).pow(bigOf(e)))
	}
	for _, none := range [][]uint64{nil, {}, {0}, make([]uint64, 200)} {
		if (fq2.El{}).Pow(none) != fq2.Of(1, 0) || fq2.Of(0, 7).Pow(none) != fq2.Of(1, 0) {
			t.Errorf("powers by 0, of %d words", len(none))
		}
	}
	if (fq2.El{}).Pow(ones) != (fq2.El{}) || (fq2.El{}).Pow([]uint64{1}) != (fq2.El{}) {
		t.Error("powers of 0")
	}
}

func TestSmallPowers(t *testing.T) {
	for _, x := range []fq2.El{fq2.Of(0, 1), fq2.Of(2, 3), fq2.Of(-1, 0), fq2.Of(7, -2), {}} {
		product := fq2.Of(1, 0)
		for n := range uint64(70) {
			if x.Pow([]uint64{n}) != product {
				t.Errorf("%v to the %d", told(x), n)
			}
			product = product.Mul(x)
		}
	}
}

// P5.2

func TestConjAndNorm(t *testing.T) {
	for _, m := range some(100) {
		x := element(t, m)
		want(t, "Conj", x.Conj(), modelOf(m.a, new(big.Int).Neg(m.b)))
		norm := x.Norm()
		if norm != coordinate(t, m.norm()) || bigOf(norm.Nat()).Cmp(m.norm()) != 0 {
			t.Errorf("the norm of %v is %x", m, norm.Nat())
		}
		if x.Mul(x.Conj()) != (fq2.El{A: norm}) {
			t.Errorf("%v times its Conj is not its norm", m)
		}
		if norm.IsZero() != m.zero() {
			t.Errorf("the norm of %v is %x", m, norm.Nat())
		}
	}
}

// P5.3

func TestInv(t *testing.T) {
	for _, m := range some(100) {
		if m.zero() {
			continue
		}
		inverse := new(big.Int).ModInverse(m.norm(), q())
		conj := modelOf(m.a, new(big.Int).Neg(m.b))
		x, e := element(t, m).Inv()
		if e != api.OK {
			t.Errorf("Inv(%v): %v", m, e)
		}
		want(t, "Inv", x, conj.mul(modelOf(inverse, new(big.Int))))
		if one := told(x).mul(m); !one.same(small(1, 0)) {
			t.Errorf("%v times its inverse is %v", m, one)
		}
	}
}

func TestInvRefuses(t *testing.T) {
	x := fq2.Of(3, 8)
	for _, zero := range []fq2.El{{}, fq2.Of(0, 0), x.Sub(x)} {
		if inverse, e := zero.Inv(); inverse != (fq2.El{}) || e != api.ErrZero {
			t.Errorf("Inv(0): %v, %v", told(inverse), e)
		}
	}
}

// wantRoot fails if the root of m is not as the model tells: whether there is
// one, and of the two the one that is not great.
func wantRoot(t *testing.T, m model) (has bool) {
	t.Helper()
	root, e := element(t, m).Sqrt()
	if big.Jacobi(m.norm(), q()) == -1 {
		if root != (fq2.El{}) || e != api.ErrRoot {
			t.Errorf("Sqrt(%v), that has none: %v, %v", m, told(root), e)
		}
		return false
	}
	if e != api.OK {
		t.Errorf("Sqrt(%v): %v", m, e)
	}
	got := told(root)
	if !got.mul(got).same(m) || got.great() || root.Great() {
		t.Errorf("Sqrt(%v) is %v", m, got)
	}
	return true
}

func TestSqrt(t *testing.T) {
	with, without := 0, 0
	for _, m := range some(100) {
		if wantRoot(t, m) {
			with++
		} else {
			without++
		}
		wantRoot(t, m.neg())
		if !wantRoot(t, m.mul(m)) || !wantRoot(t, m.mul(m).neg()) {
			t.Errorf("the square of %v, or its negative, has no root", m)
		}
	}
	if with < 50 || without < 50 {
		t.Errorf("%d have a root, %d have none", with, without)
	}
	for a := int64(-5); a <= 5; a++ {
		for b := int64(-5); b <= 5; b++ {
			wantRoot(t, small(a, b))
		}
	}
}

// By a rule that needs no norms: an element but 0 has a root just if its power
// by (q^2 - 1) / 2 is 1; else that is -1.
func TestWhatHasRoots(t *testing.T) {
	exponent := new(big.Int).Mul(q(), q())
	exponent.Rsh(exponent, 1)
	seen := map[bool]int{}
	for _, m := range few(10) {
		p := m.pow(exponent)
		if !p.same(small(1, 0)) && !p.same(small(-1, 0)) && !m.zero() {
			t.Fatalf("%v to the (q^2 - 1) / 2 is %v", m, p)
		}
		has := wantRoot(t, m)
		if has != !p.same(small(-1, 0)) {
			t.Errorf("%v has a root: %v", m, has)
		}
		seen[has]++
	}
	if seen[true] < 10 || seen[false] < 10 {
		t.Errorf("%d have a root, %d have none", seen[true], seen[false])
	}
}

func TestSqrtOfSquares(t *testing.T) {
	if root, e := (fq2.El{}).Sqrt(); root != (fq2.El{}) || e != api.OK {
		t.Errorf("Sqrt(0): %v, %v", told(root), e)
	}
	if root, e := fq2.Of(1, 0).Sqrt(); root != fq2.Of(1, 0) || e != api.OK {
		t.Errorf("Sqrt(1): %v, %v", told(root), e)
	}
	if root, e := fq2.Of(-5, 0).Sqrt(); root != fq2.Of(0, 1) || e != api.OK {
		t.Errorf("Sqrt(-5): %v, %v", told(root), e)
	}
	for _, m := range some(60) {
		x, not := element(t, m), m // of both the one that is not great
		if m.great() {
			not = m.neg()
		}
		root, e := x.Mul(x).Sqrt()
		if e != api.OK {
			t.Errorf("the root of the square of %v: %v", m, e)
		}
		want(t, "the root of a square", root, not)
	}
}

// Every coordinate has a root: among coordinates, or else a coordinate times u.
func TestSqrtOfCoordinates(t *testing.T) {
	l := edges()
	var others numbers
	for range 60 {
		l = append(l, byQ(others.next()))
	}
	for n := range int64(30) {
		l = append(l, big.NewInt(n), byQ(big.NewInt(-n)))
	}
	among := 0
	for _, a := range l {
		m := modelOf(a, new(big.Int))
		if !wantRoot(t, m) {
			t.Errorf("%x has no root", a)
		}
		root, _ := element(t, m).Sqrt()
		if big.Jacobi(a, q()) == -1 {
			if !root.A.IsZero() || root.B.IsZero() {
				t.Errorf("the root of %x is %v", a, told(root))
			}
			continue
		}
		among++
		if !root.B.IsZero() {
			t.Errorf("the root of %x is %v", a, told(root))
		}
	}
	if among < 20 || among > len(l)-20 {
		t.Errorf("%d of %d have a root among coordinates", among, len(l))
	}
}

// Roots of 1 of every order that is a power of 2: all but those of the
// greatest one, 2^47, have roots, and those of 2^46 none among coordinates.
func TestSqrtOfRootsOfOne(t *testing.T) {
	order := new(big.Int).Mul(q(), q())
	order.Sub(order, big.NewInt(1))
	twos := order.TrailingZeroBits()
	if twos != 47 {
		t.Fatalf("2 goes into q^2 - 1 %d times", twos)
	}
	none := small(1, 1)
	for big.Jacobi(none.norm(), q()) != -1 {
		none = none.add(small(1, 0))
	}
	turn := none.pow(new(big.Int).Rsh(order, twos))
	odd := small(3, 2).pow(power(twos, 0))
	for k := int(twos); k >= 0; k-- {
		if has := wantRoot(t, turn); has != (k < int(twos)) {
			t.Errorf("of the order 2^%d: %v", k, has)
		}
		if has := wantRoot(t, turn.mul(odd)); has != (k < int(twos)) {
			t.Errorf("of an odd order times 2^%d: %v", k, has)
		}
		turn = turn.mul(turn)
	}
}

func TestSqrtRefuses(t *testing.T) {
	for _, x := range []fq2.El{fq2.Of(0, 1), fq2.Of(0, -1), fq2.Of(0, 5), fq2.Of(5, 1), fq2.Of(9, -1)} { // of the norms 5, 5, 125, 30, 86
		for _, m := range some(10) {
			if m.zero() {
				continue
			}
			y := element(t, m)
			if root, e := x.Mul(y).Mul(y).Sqrt(); root != (fq2.El{}) || e != api.ErrRoot {
				t.Errorf("Sqrt of the square of %v, times %v: %v, %v", m, told(x), told(root), e)
			}
		}
	}
	for n := int64(1); n < 30; n++ { // the norm of n u is 5 n^2, that is no square
		if root, e := fq2.Of(0, n).Sqrt(); root != (fq2.El{}) || e != api.ErrRoot {
			t.Errorf("Sqrt(%d u): %v, %v", n, told(root), e)
		}
	}
}

// What one call refuses, the other one answers: 0 has a root, and elements
// without a root have inverses.
func TestErrorsStandApart(t *testing.T) {
	zero, none := fq2.El{}, fq2.Of(0, 1)
	_, inverse := zero.Inv()
	_, root := zero.Sqrt()
	if inverse != api.ErrZero || root != api.OK {
		t.Errorf("0: %v, %v", inverse, root)
	}
	_, inverse = none.Inv()
	_, root = none.Sqrt()
	if inverse != api.OK || root != api.ErrRoot {
		t.Errorf("u: %v, %v", inverse, root)
	}
}

// The document's examples.
func TestExamples(t *testing.T) {
	u := fq2.Of(0, 1)
	if u.Mul(u) != fq2.Of(-5, 0) || fq2.Of(1, 1).Mul(fq2.Of(1, -1)) != fq2.Of(6, 0) || fq2.Of(2, 3).Norm() != fq.Of(49) {
		t.Error("products")
	}
	if root, e := fq2.Of(-5, 0).Sqrt(); root != u || e != api.OK {
		t.Errorf("Sqrt(-5): %v, %v", told(root), e)
	}
	if root, e := fq2.Of(25, 0).Sqrt(); root != fq2.Of(5, 0) || e != api.OK {
		t.Errorf("Sqrt(25): %v, %v", told(root), e)
	}
	if _, e := fq2.Of(0, 0).Inv(); e != api.ErrZero {
		t.Errorf("Inv(0): %v", e)
	}
}
