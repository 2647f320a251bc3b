package fr_test

import (
	"math/big"
	"slices"
	"testing"

	"marlinspike/api"
	"marlinspike/fr"
)

// P3.5

func TestScalarsAreAField(t *testing.T) {
	l := scalars(t, some(10))
	for i, x := range l {
		alone(t, x)
		for j, y := range l {
			pair(t, x, y)
			triple(t, x, y, l[(3*i+5*j+1)%len(l)])
		}
	}
}

func alone(t *testing.T, x fr.El) {
	var zero fr.El
	one := fr.Of(1)
	if x.Add(zero) != x || x.Sub(zero) != x || x.Mul(one) != x || x.Mul(zero) != zero {
		t.Errorf("%x with 0 and 1", x.Nat())
	}
	if x.Add(x.Neg()) != zero || x.Sub(x) != zero || zero.Sub(x) != x.Neg() || x.Neg().Neg() != x || x.Mul(fr.Of(-1)) != x.Neg() {
		t.Errorf("%x with its negative", x.Nat())
	}
	if x.Pow(nil) != one || x.Pow([]uint64{1}) != x || x.Pow([]uint64{2}) != x.Mul(x) || x.Pow(fr.Modulus()) != x {
		t.Errorf("%x and its powers", x.Nat())
	}
	inverse, e := x.Inv()
	if x.IsZero() {
		if inverse != zero || e != api.ErrZero {
			t.Errorf("0 has an inverse: %x, %v", inverse.Nat(), e)
		}
		return
	}
	back, again := inverse.Inv()
	if e != api.OK || again != api.OK || x.Mul(inverse) != one || back != x {
		t.Errorf("%x with its inverse", x.Nat())
	}
}

func pair(t *testing.T, x, y fr.El) {
	if x.Add(y) != y.Add(x) || x.Mul(y) != y.Mul(x) || x.Sub(y) != y.Sub(x).Neg() {
		t.Errorf("%x and %x, turned", x.Nat(), y.Nat())
	}
	if x.Add(y).Sub(y) != x || x.Sub(y).Add(y) != x {
		t.Errorf("%x put to %x and taken away", y.Nat(), x.Nat())
	}
	if x.Mul(y).IsZero() != (x.IsZero() || y.IsZero()) {
		t.Errorf("the product of %x and %x", x.Nat(), y.Nat())
	}
	e := []uint64{77, 0, 3}
	if x.Mul(y).Pow(e) != x.Pow(e).Mul(y.Pow(e)) {
		t.Errorf("powers of %x and %x", x.Nat(), y.Nat())
	}
}

func triple(t *testing.T, x, y, z fr.El) {
	if x.Add(y).Add(z) != x.Add(y.Add(z)) || x.Mul(y).Mul(z) != x.Mul(y.Mul(z)) {
		t.Errorf("%x, %x, %x, put together", x.Nat(), y.Nat(), z.Nat())
	}
	if x.Mul(y.Add(z)) != x.Mul(y).Add(x.Mul(z)) {
		t.Errorf("%x times the sum of %x and %x", x.Nat(), y.Nat(), z.Nat())
	}
}

// The number of a scalar makes it again, by each way; and unlike numbers are
// unlike values.
func TestScalarsAreTheirNumbers(t *testing.T) {
	told := map[fr.El]string{}
	for _, b := range some(100) {
		x := scalar(t, b)
		s := x.Scalar()
		from, e := fr.From(s)
		reduced, again := fr.Reduce(s[:])
		if e != api.OK || again != api.OK || from != x || reduced != x {
			t.Errorf("%x, made again: %v, %v", b, e, again)
		}
		if other, ok := told[x]; ok && other != b.String() {
			t.Errorf("%s and %s are one value", other, b)
		}
		told[x] = b.String()
	}
}

// What is the same by r is the same scalar, wherever it comes from.
func TestManyWaysToOneScalar(t *testing.T) {
	for _, b := range some(20) {
		x := scalar(t, b)
		for times := range int64(5) {
			more := new(big.Int).Add(b, new(big.Int).Mul(r(), big.NewInt(times*times*times)))
			if y, e := fr.Reduce(more.Bytes()); e != api.OK || y != x {
				t.Errorf("%x and r, %d times: %x, %v", b, times*times*times, y.Nat(), e)
			}
		}
	}
}

func TestInverseOfProduct(t *testing.T) {
	l := slices.DeleteFunc(scalars(t, some(5)), fr.El.IsZero)
	for i, x := range l {
		y := l[(7*i+3)%len(l)]
		both, _ := x.Mul(y).Inv()
		two, e := fr.Invert([]fr.El{x, y})
		if e != api.OK || two[0].Mul(two[1]) != both {
			t.Errorf("the inverse of %x times %x", x.Nat(), y.Nat())
		}
	}
}

func TestOrdersOfRoots(t *testing.T) {
	for k := range 48 {
		x, e := fr.Root(1 << k)
		if e != api.OK {
			t.Fatalf("Root(2^%d): %v", k, e)
		}
		if x.Pow([]uint64{1 << k}) != fr.Of(1) {
			t.Errorf("the power of Root(2^%d) isn't 1", k)
		}
		if k == 0 {
			continue
		}
		if x.Pow([]uint64{1 << (k - 1)}) != fr.Of(-1) { // so no power before is 1
			t.Errorf("the half power of Root(2^%d) isn't -1", k)
		}
		if half, _ := fr.Root(1 << (k - 1)); x.Mul(x) != half {
			t.Errorf("Root(2^%d) twice isn't Root(2^%d)", k, k-1)
		}
	}
}

// Of the small ones all powers are gone through.
func TestPowersOfRoots(t *testing.T) {
	for k := range 10 {
		n := 1 << k
		x, _ := fr.Root(n)
		told := map[fr.El]bool{}
		y := fr.Of(1)
		for i := range n {
			if told[y] || (y == fr.Of(1)) != (i == 0) || x.Pow([]uint64{uint64(i)}) != y {
				t.Errorf("Root(%d) to the %d is %x", n, i, y.Nat())
			}
			told[y] = true
			y = y.Mul(x)
		}
		if y != fr.Of(1) {
			t.Errorf("Root(%d) to the %d is %x", n, n, y.Nat())
		}
	}
}
