package fq_test

import (
	"slices"
	"testing"

	"marlinspike/api"
	"marlinspike/fq"
)

// P4.4

func TestCoordinatesAreAField(t *testing.T) {
	l := coordinates(t, some(10))
	for i, x := range l {
		alone(t, x)
		for j, y := range l {
			pair(t, x, y)
			triple(t, x, y, l[(3*i+5*j+1)%len(l)])
		}
	}
}

func alone(t *testing.T, x fq.El) {
	var zero fq.El
	one := fq.Of(1)
	if x.Add(zero) != x || x.Sub(zero) != x || x.Mul(one) != x || x.Mul(zero) != zero {
		t.Errorf("%x with 0 and 1", x.Nat())
	}
	if x.Add(x.Neg()) != zero || x.Sub(x) != zero || zero.Sub(x) != x.Neg() || x.Neg().Neg() != x || x.Mul(fq.Of(-1)) != x.Neg() {
		t.Errorf("%x with its negative", x.Nat())
	}
	if x.Pow(nil) != one || x.Pow([]uint64{1}) != x || x.Pow([]uint64{2}) != x.Mul(x) || x.Pow(fq.Modulus()) != x {
		t.Errorf("%x and its powers", x.Nat())
	}
	inverse, e := x.Inv()
	if x.IsZero() {
		if inverse != zero || e != api.ErrZero {
			t.Errorf("0 has an inverse: %x, %v", inverse.Nat(), e)
		}
		return
	}
	back, again := inverse.Inv()
	if e != api.OK || again != api.OK || x.Mul(inverse) != one || back != x {
		t.Errorf("%x with its inverse", x.Nat())
	}
}

func pair(t *testing.T, x, y fq.El) {
	if x.Add(y) != y.Add(x) || x.Mul(y) != y.Mul(x) || x.Sub(y) != y.Sub(x).Neg() {
		t.Errorf("%x and %x, turned", x.Nat(), y.Nat())
	}
	if x.Add(y).Sub(y) != x || x.Sub(y).Add(y) != x {
		t.Errorf("%x put to %x and taken away", y.Nat(), x.Nat())
	}
	if x.Mul(y).IsZero() != (x.IsZero() || y.IsZero()) {
		t.Errorf("the product of %x and %x", x.Nat(), y.Nat())
	}
	e := []uint64{77, 0, 3}
	if x.Mul(y).Pow(e) != x.Pow(e).Mul(y.Pow(e)) {
		t.Errorf("powers of %x and %x", x.Nat(), y.Nat())
	}
}

func triple(t *testing.T, x, y, z fq.El) {
	if x.Add(y).Add(z) != x.Add(y.Add(z)) || x.Mul(y).Mul(z) != x.Mul(y.Mul(z)) {
		t.Errorf("%x, %x, %x, put together", x.Nat(), y.Nat(), z.Nat())
	}
	if x.Mul(y.Add(z)) != x.Mul(y).Add(x.Mul(z)) {
		t.Errorf("%x times the sum of %x and %x", x.Nat(), y.Nat(), z.Nat())
	}
}

// The bytes of a coordinate make it again; and unlike numbers are unlike values.
func TestCoordinatesAreTheirNumbers(t *testing.T) {
	told := map[fq.El]string{}
	for _, b := range some(100) {
		x := coordinate(t, b)
		from, e := fq.From(x.Bytes())
		if e != api.OK || from != x {
			t.Errorf("%x, made again: %v", b, e)
		}
		if other, ok := told[x]; ok && other != b.String() {
			t.Errorf("%s and %s are one value", other, b)
		}
		told[x] = b.String()
	}
}

func TestOneOfTwoIsGreat(t *testing.T) {
	for _, b := range some(200) {
		x := coordinate(t, b)
		if x.IsZero() {
			if x.Great() || x.Neg().Great() {
				t.Error("0 is great")
			}
		} else if x.Great() == x.Neg().Great() {
			t.Errorf("%x is as great as its negative: %v", b, x.Great())
		}
	}
}

func TestRootsOfProducts(t *testing.T) {
	l := slices.DeleteFunc(coordinates(t, some(10)), fq.El.IsZero)
	has := make([]bool, len(l))
	seen := map[bool]bool{}
	for i, x := range l {
		_, e := x.Sqrt()
		has[i] = e == api.OK
		seen[has[i]] = true
	}
	if len(seen) != 2 {
		t.Fatal("all or none of them have a root")
	}
	for i, x := range l {
		for j, y := range l {
			product := x.Mul(y)
			root, e := product.Sqrt()
			if (e == api.OK) != (has[i] == has[j]) {
				t.Errorf("%x (a root: %v) times %x (%v): %v", x.Nat(), has[i], y.Nat(), has[j], e)
			}
			if e == api.OK && (root.Mul(root) != product || root.Great()) || e != api.OK && (root != fq.El{} || e != api.ErrRoot) {
				t.Errorf("the root of %x times %x is %x, %v", x.Nat(), y.Nat(), root.Nat(), e)
			}
		}
		if _, e := x.Mul(fq.El{}).Sqrt(); e != api.OK {
			t.Errorf("%x times 0: %v", x.Nat(), e)
		}
	}
}
