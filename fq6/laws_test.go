package fq6_test

import (
	"testing"

	"marlinspike/api"
	"marlinspike/fq2"
	"marlinspike/fq6"
)

// P6.3

func TestElementsAreAField(t *testing.T) {
	l := elements(t, few(4))
	for i, x := range l {
		alone(t, x)
		for j, y := range l {
			pair(t, x, y)
			triple(t, x, y, l[(3*i+5*j+1)%len(l)])
		}
	}
}

func alone(t *testing.T, x fq6.El) {
	var zero fq6.El
	if x.Add(zero) != x || x.Sub(zero) != x || x.Mul(one) != x || one.Mul(x) != x || x.Mul(zero) != zero {
		t.Errorf("%v with 0 and 1", told(x))
	}
	if x.Add(x.Neg()) != zero || x.Sub(x) != zero || zero.Sub(x) != x.Neg() || x.Neg().Neg() != x || x.Mul(fq6.Of(-1)) != x.Neg() {
		t.Errorf("%v with its negative", told(x))
	}
	if (x == x.Neg()) != x.IsZero() || (x == x.MulV()) != x.IsZero() {
		t.Errorf("%v, held against its like", told(x))
	}
	inverse, e := x.Inv()
	if x.IsZero() {
		if inverse != zero || e != api.ErrZero {
			t.Errorf("0 has an inverse: %v, %v", told(inverse), e)
		}
		return
	}
	back, again := inverse.Inv()
	if e != api.OK || again != api.OK || x.Mul(inverse) != one || inverse.Mul(x) != one || back != x {
		t.Errorf("%v with its inverse", told(x))
	}
}

func pair(t *testing.T, x, y fq6.El) {
	if x.Add(y) != y.Add(x) || x.Mul(y) != y.Mul(x) || x.Sub(y) != y.Sub(x).Neg() {
		t.Errorf("%v and %v, turned", told(x), told(y))
	}
	if x.Add(y).Sub(y) != x || x.Sub(y).Add(y) != x || x.Neg().Mul(y) != x.Mul(y).Neg() {
		t.Errorf("%v put to %v and taken away", told(y), told(x))
	}
	if x.Mul(y).IsZero() != (x.IsZero() || y.IsZero()) {
		t.Errorf("the product of %v and %v", told(x), told(y))
	}
	if x.Add(y).MulV() != x.MulV().Add(y.MulV()) || x.MulV().Mul(y) != x.Mul(y).MulV() {
		t.Errorf("%v and %v, times v", told(x), told(y))
	}
	if x.Add(y).Scale(y.B) != x.Scale(y.B).Add(y.Scale(y.B)) || x.Scale(y.C).Mul(y) != x.Mul(y).Scale(y.C) {
		t.Errorf("%v and %v, each part times some", told(x), told(y))
	}
	if x.Mul(y) != y.Scale(x.A).Add(y.Scale(x.B).MulV()).Add(y.Scale(x.C).MulV().MulV()) {
		t.Errorf("%v times %v, part by part", told(x), told(y))
	}
}

func triple(t *testing.T, x, y, z fq6.El) {
	if x.Add(y).Add(z) != x.Add(y.Add(z)) || x.Mul(y).Mul(z) != x.Mul(y.Mul(z)) {
		t.Errorf("%v, %v, %v, put together", told(x), told(y), told(z))
	}
	if x.Mul(y.Add(z)) != x.Mul(y).Add(x.Mul(z)) || x.Sub(y).Mul(z) != x.Mul(z).Sub(y.Mul(z)) {
		t.Errorf("%v times the sum of %v and %v", told(x), told(y), told(z))
	}
	if x.Scale(y.A.Mul(z.B)) != x.Scale(y.A).Scale(z.B) || x.Scale(y.A.Add(z.B)) != x.Scale(y.A).Add(x.Scale(z.B)) {
		t.Errorf("%v, each part times some of %v and %v", told(x), told(y), told(z))
	}
}

func TestInversesOfProducts(t *testing.T) {
	l := elements(t, some(20))
	for i, x := range l {
		y := l[(7*i+4)%len(l)]
		product, e := x.Mul(y).Inv()
		if x.IsZero() || y.IsZero() {
			if product != (fq6.El{}) || e != api.ErrZero {
				t.Errorf("the inverse of 0 times something: %v, %v", told(product), e)
			}
			continue
		}
		a, _ := x.Inv()
		b, _ := y.Inv()
		if product != a.Mul(b) || e != api.OK {
			t.Errorf("the inverse of %v times %v", told(x), told(y))
		}
	}
}

// Pairs are elements: their sums, products and inverses are the same ones.
func TestPairsAreElements(t *testing.T) {
	l := elements(t, few(5))
	for i, x := range l {
		a, b := fq6.El{A: x.A}, fq6.El{A: l[(3*i+1)%len(l)].A}
		if a.Add(b) != (fq6.El{A: a.A.Add(b.A)}) || a.Sub(b) != (fq6.El{A: a.A.Sub(b.A)}) || a.Mul(b) != (fq6.El{A: a.A.Mul(b.A)}) || a.Neg() != (fq6.El{A: a.A.Neg()}) {
			t.Errorf("%v and %v", told(a), told(b))
		}
		inverse, e := a.Inv()
		own, again := a.A.Inv()
		if inverse != (fq6.El{A: own}) || e != again {
			t.Errorf("the inverse of %v: %v, %v", told(a), told(inverse), e)
		}
	}
}

// Whole numbers are elements: Of goes out over sums and products.
func TestOfGoesOut(t *testing.T) {
	for a := int64(-9); a <= 9; a++ {
		for b := int64(-9); b <= 9; b++ {
			x, y := fq6.Of(a), fq6.Of(b)
			if x.Add(y) != fq6.Of(a+b) || x.Sub(y) != fq6.Of(a-b) || x.Mul(y) != fq6.Of(a*b) || x.Neg() != fq6.Of(-a) {
				t.Errorf("%d and %d", a, b)
			}
			if x.Scale(fq2.Of(b, 0)) != fq6.Of(a*b) || (x == y) != (a == b) {
				t.Errorf("%d times %d", a, b)
			}
		}
	}
}

// Unlike triples are unlike values.
func TestElementsAreTheirParts(t *testing.T) {
	seen := map[fq6.El]string{}
	for _, m := range some(100) {
		x := element(t, m)
		if other, ok := seen[x]; ok && other != m.String() {
			t.Errorf("%s and %v are one value", other, m)
		}
		seen[x] = m.String()
	}
	if len(seen) < 200 {
		t.Errorf("%d values", len(seen))
	}
}
