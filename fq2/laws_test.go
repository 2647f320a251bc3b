package fq2_test

import (
	"slices"
	"testing"

	"marlinspike/api"
	"marlinspike/fq"
	"marlinspike/fq2"
)

// P5.4

func TestElementsAreAField(t *testing.T) {
	l := elements(t, few(3))
	for i, x := range l {
		alone(t, x)
		for j, y := range l {
			pair(t, x, y)
			triple(t, x, y, l[(3*i+5*j+1)%len(l)])
		}
	}
}

func alone(t *testing.T, x fq2.El) {
	var zero fq2.El
	one := fq2.Of(1, 0)
	if x.Add(zero) != x || x.Sub(zero) != x || x.Mul(one) != x || x.Mul(zero) != zero {
		t.Errorf("%v with 0 and 1", told(x))
	}
	if x.Add(x.Neg()) != zero || x.Sub(x) != zero || zero.Sub(x) != x.Neg() || x.Neg().Neg() != x || x.Mul(fq2.Of(-1, 0)) != x.Neg() {
		t.Errorf("%v with its negative", told(x))
	}
	if x.Pow(nil) != one || x.Pow([]uint64{1}) != x || x.Pow([]uint64{2}) != x.Mul(x) {
		t.Errorf("%v and its powers", told(x))
	}
	inverse, e := x.Inv()
	if x.IsZero() {
		if inverse != zero || e != api.ErrZero {
			t.Errorf("0 has an inverse: %v, %v", told(inverse), e)
		}
		return
	}
	back, again := inverse.Inv()
	if e != api.OK || again != api.OK || x.Mul(inverse) != one || back != x {
		t.Errorf("%v with its inverse", told(x))
	}
}

func pair(t *testing.T, x, y fq2.El) {
	if x.Add(y) != y.Add(x) || x.Mul(y) != y.Mul(x) || x.Sub(y) != y.Sub(x).Neg() {
		t.Errorf("%v and %v, turned", told(x), told(y))
	}
	if x.Add(y).Sub(y) != x || x.Sub(y).Add(y) != x {
		t.Errorf("%v put to %v and taken away", told(y), told(x))
	}
	if x.Mul(y).IsZero() != (x.IsZero() || y.IsZero()) {
		t.Errorf("the product of %v and %v", told(x), told(y))
	}
	e := []uint64{77, 0, 3}
	if x.Mul(y).Pow(e) != x.Pow(e).Mul(y.Pow(e)) {
		t.Errorf("powers of %v and %v", told(x), told(y))
	}
	if x.Add(y).Conj() != x.Conj().Add(y.Conj()) || x.Mul(y).Conj() != x.Conj().Mul(y.Conj()) {
		t.Errorf("Conj of %v and %v together", told(x), told(y))
	}
	if x.Mul(y).Norm() != x.Norm().Mul(y.Norm()) {
		t.Errorf("the norm of %v times %v", told(x), told(y))
	}
}

func triple(t *testing.T, x, y, z fq2.El) {
	if x.Add(y).Add(z) != x.Add(y.Add(z)) || x.Mul(y).Mul(z) != x.Mul(y.Mul(z)) {
		t.Errorf("%v, %v, %v, put together", told(x), told(y), told(z))
	}
	if x.Mul(y.Add(z)) != x.Mul(y).Add(x.Mul(z)) {
		t.Errorf("%v times the sum of %v and %v", told(x), told(y), told(z))
	}
}

func TestConjIsThePowerByQ(t *testing.T) {
	for _, x := range elements(t, few(10)) {
		if x.Pow(fq.Modulus()) != x.Conj() || x.Conj().Conj() != x || x.Conj().Pow(fq.Modulus()) != x {
			t.Errorf("Conj of %v", told(x))
		}
		if (x.Conj() == x) != x.B.IsZero() {
			t.Errorf("%v is its own Conj: %v", told(x), x.Conj() == x)
		}
	}
}

// Coordinates are elements: their sums and products are the same ones.
func TestCoordinatesAreElements(t *testing.T) {
	l := elements(t, few(5))
	for i, x := range l {
		a, b := fq2.El{A: x.A}, fq2.El{A: l[(3*i+1)%len(l)].B}
		if a.Add(b) != (fq2.El{A: a.A.Add(b.A)}) || a.Sub(b) != (fq2.El{A: a.A.Sub(b.A)}) || a.Mul(b) != (fq2.El{A: a.A.Mul(b.A)}) || a.Neg() != (fq2.El{A: a.A.Neg()}) {
			t.Errorf("%v and %v", told(a), told(b))
		}
		if a.Great() != a.A.Great() || a.Norm() != a.A.Mul(a.A) || a.Conj() != a {
			t.Errorf("%v", told(a))
		}
		inverse, e := a.Inv()
		own, again := a.A.Inv()
		if inverse != (fq2.El{A: own}) || e != again {
			t.Errorf("the inverse of %v: %v, %v", told(a), told(inverse), e)
		}
	}
}

// Of an element and its negative, but for 0, just one is great.
func TestOneOfTwoIsGreat(t *testing.T) {
	for _, m := range some(100) {
		x := element(t, m)
		if m.zero() {
			if x.Great() || x.Neg().Great() {
				t.Error("0 is great")
			}
		} else if x.Great() == x.Neg().Great() {
			t.Errorf("%v is as great as its negative: %v", m, x.Great())
		}
	}
}

func TestRootsGoByNorms(t *testing.T) {
	seen := map[bool]int{}
	for _, m := range some(60) {
		x := element(t, m)
		root, e := x.Sqrt()
		_, norm := x.Norm().Sqrt()
		if (e == api.OK) != (norm == api.OK) {
			t.Errorf("the root of %v: %v, of its norm: %v", m, e, norm)
		}
		if e == api.OK && (root.Mul(root) != x || root.Great()) || e != api.OK && (root != fq2.El{} || e != api.ErrRoot) {
			t.Errorf("the root of %v is %v, %v", m, told(root), e)
		}
		seen[e == api.OK]++
	}
	if seen[true] < 30 || seen[false] < 30 {
		t.Errorf("%d have a root, %d have none", seen[true], seen[false])
	}
}

func TestRootsOfProducts(t *testing.T) {
	l := slices.DeleteFunc(elements(t, few(3)), fq2.El.IsZero)
	has := func(x fq2.El) bool {
		_, e := x.Sqrt()
		return e == api.OK
	}
	for i, x := range l {
		y := l[(5*i+2)%len(l)]
		if has(x.Mul(y)) != (has(x) == has(y)) {
			t.Errorf("%v (a root: %v) times %v (%v)", told(x), has(x), told(y), has(y))
		}
		inverse, _ := x.Inv()
		if has(inverse) != has(x) || has(x.Conj()) != has(x) || has(x.Neg()) != has(x) || !has(x.Mul(x)) {
			t.Errorf("roots of %v, its inverse, its Conj, its negative, its square", told(x))
		}
	}
}

// Unlike pairs are unlike values.
func TestElementsAreTheirCoordinates(t *testing.T) {
	seen := map[fq2.El]string{}
	for _, m := range some(100) {
		x := element(t, m)
		if other, ok := seen[x]; ok && other != m.String() {
			t.Errorf("%s and %v are one value", other, m)
		}
		seen[x] = m.String()
		if (x == x.Conj()) != (m.b.Sign() == 0) || (x == x.Neg()) != m.zero() {
			t.Errorf("%v, held against its like", m)
		}
	}
}
