package fq12_test

import (
	"math/big"
	"testing"

	"marlinspike/api"
	"marlinspike/fq12"
	"marlinspike/fq2"
	"marlinspike/fq6"
)

// P7.4

func TestElementsAreAField(t *testing.T) {
	l := elements(t, few(4))
	for i, x := range l {
		alone(t, x)
		for j, y := range l {
			pair(t, x, y)
			triple(t, x, y, l[(3*i+5*j+1)%len(l)])
		}
	}
}

func alone(t *testing.T, x fq12.El) {
	var zero fq12.El
	if x.Add(zero) != x || x.Sub(zero) != x || x.Mul(one) != x || one.Mul(x) != x || x.Mul(zero) != zero {
		t.Errorf("%v with 0 and 1", told(x))
	}
	if x.Add(x.Neg()) != zero || x.Sub(x) != zero || zero.Sub(x) != x.Neg() || x.Neg().Neg() != x || x.Mul(fq12.Of(-1)) != x.Neg() {
		t.Errorf("%v with its negative", told(x))
	}
	if x.Pow(nil) != one || x.Pow([]uint64{1}) != x || x.Pow([]uint64{2}) != x.Mul(x) {
		t.Errorf("%v and its powers", told(x))
	}
	if (x == x.Neg()) != x.IsZero() || (x == x.Conj()) != x.B.IsZero() || (x == x.Mul(w)) != x.IsZero() {
		t.Errorf("%v, held against its like", told(x))
	}
	inverse, e := x.Inv()
	if x.IsZero() {
		if inverse != zero || e != api.ErrZero {
			t.Errorf("0 has an inverse: %v, %v", told(inverse), e)
		}
		return
	}
	back, again := inverse.Inv()
	if e != api.OK || again != api.OK || x.Mul(inverse) != one || inverse.Mul(x) != one || back != x {
		t.Errorf("%v with its inverse", told(x))
	}
}

func pair(t *testing.T, x, y fq12.El) {
	if x.Add(y) != y.Add(x) || x.Mul(y) != y.Mul(x) || x.Sub(y) != y.Sub(x).Neg() {
		t.Errorf("%v and %v, turned", told(x), told(y))
	}
	if x.Add(y).Sub(y) != x || x.Sub(y).Add(y) != x || x.Neg().Mul(y) != x.Mul(y).Neg() {
		t.Errorf("%v put to %v and taken away", told(y), told(x))
	}
	if x.Mul(y).IsZero() != (x.IsZero() || y.IsZero()) {
		t.Errorf("the product of %v and %v", told(x), told(y))
	}
	if x.Add(y).Conj() != x.Conj().Add(y.Conj()) || x.Mul(y).Conj() != x.Conj().Mul(y.Conj()) {
		t.Errorf("Conj of %v and %v together", told(x), told(y))
	}
	if x.Add(y).Frob() != x.Frob().Add(y.Frob()) || x.Mul(y).Frob() != x.Frob().Mul(y.Frob()) {
		t.Errorf("Frob of %v and %v together", told(x), told(y))
	}
}

func triple(t *testing.T, x, y, z fq12.El) {
	if x.Add(y).Add(z) != x.Add(y.Add(z)) || x.Mul(y).Mul(z) != x.Mul(y.Mul(z)) {
		t.Errorf("%v, %v, %v, put together", told(x), told(y), told(z))
	}
	if x.Mul(y.Add(z)) != x.Mul(y).Add(x.Mul(z)) || x.Sub(y).Mul(z) != x.Mul(z).Sub(y.Mul(z)) {
		t.Errorf("%v times the sum of %v and %v", told(x), told(y), told(z))
	}
}

// Exponents together are powers' products; one after the other, powers of powers.
func TestExponents(t *testing.T) {
	for _, x := range elements(t, few(1)) {
		for _, d := range [][]uint64{nil, {1}, {1<<64 - 1}, {5, 6}} {
			for _, e := range [][]uint64{{0}, {3}, {0, 1}} {
				sum := new(big.Int).Add(bigOf(d), bigOf(e))
				product := new(big.Int).Mul(bigOf(d), bigOf(e))
				if x.Pow(d).Mul(x.Pow(e)) != x.Pow(fromBig(sum)) || x.Pow(d).Pow(e) != x.Pow(fromBig(product)) {
					t.Errorf("%v to the %x and %x", told(x), d, e)
				}
			}
		}
	}
}

func TestPowersOfProducts(t *testing.T) {
	l := elements(t, few(2))
	e := []uint64{77, 0, 3}
	for i, x := range l {
		y := l[(5*i+3)%len(l)]
		if x.Mul(y).Pow(e) != x.Pow(e).Mul(y.Pow(e)) {
			t.Errorf("powers of %v and %v", told(x), told(y))
		}
		inverse, _ := x.Inv()
		if got, _ := x.Pow(e).Inv(); got != inverse.Pow(e) {
			t.Errorf("powers of the inverse of %v", told(x))
		}
	}
}

func TestFrobGoesRound(t *testing.T) {
	for _, x := range elements(t, some(20)) {
		y := x
		for n := range 12 {
			if n == 6 && y != x.Conj() {
				t.Errorf("%v, six times Frob, is %v", told(x), told(y))
			}
			if y.Conj().Frob() != y.Frob().Conj() {
				t.Errorf("Frob and Conj of %v, turned", told(y))
			}
			y = y.Frob()
		}
		if y != x {
			t.Errorf("%v, twelve times Frob, is %v", told(x), told(y))
		}
	}
}

// What Frob, done not at all, once, .., eleven times, makes of an element: the
// product of all that is a number, and 0 just of 0.
func TestProductsOfFrobs(t *testing.T) {
	for _, x := range elements(t, few(6)) {
		product, y := one, x
		for range 12 {
			product = product.Mul(y)
			y = y.Frob()
		}
		if product != (fq12.El{A: fq6.El{A: fq2.El{A: product.A.A.A}}}) || product.IsZero() != x.IsZero() {
			t.Errorf("the product of what Frob makes of %v is %v", told(x), told(product))
		}
	}
}

func TestConjIsThePowerByQToTheSixth(t *testing.T) {
	sixth := fromBig(power(6, 0))
	for _, x := range []fq12.El{{}, one, w, u.Mul(w), element(t, small(2, 3, 5, 7, 11, 13, 17, 19, 23, 29, 31, 37)), elements(t, some(1))[190]} {
		if x.Pow(sixth) != x.Conj() {
			t.Errorf("%v to the q^6 is %v", told(x), told(x.Pow(sixth)))
		}
	}
}

// There are q^12 elements: the power by q^12 is the element itself, and the one
// by q^12 - 2 its inverse.
func TestPowersByTheCount(t *testing.T) {
	x := element(t, small(-1, 2, 0, 3, 0, 0, 4, -5, 0, 0, 6, 7))
	inverse, e := x.Inv()
	if x.Pow(fromBig(power(12, 0))) != x || x.Pow(fromBig(power(12, -2))) != inverse || e != api.OK {
		t.Errorf("%v to the q^12, and its inverse", told(x))
	}
}

// As v is no square, what has an inverse is all but 0: there are no other
// elements of which a product is 0.
func TestVIsNoSquare(t *testing.T) {
	half := power(6, -1)
	half.Rsh(half, 1)
	if got := v.Pow(fromBig(half)); got != fq12.Of(-1) {
		t.Errorf("v to the (q^6 - 1) / 2 is %v", told(got))
	}
}

func TestInversesOfProducts(t *testing.T) {
	l := elements(t, some(20))
	for i, x := range l {
		y := l[(7*i+4)%len(l)]
		product, e := x.Mul(y).Inv()
		if x.IsZero() || y.IsZero() {
			if product != (fq12.El{}) || e != api.ErrZero {
				t.Errorf("the inverse of 0 times something: %v, %v", told(product), e)
			}
			continue
		}
		a, _ := x.Inv()
		b, _ := y.Inv()
		if product != a.Mul(b) || e != api.OK {
			t.Errorf("the inverse of %v times %v", told(x), told(y))
		}
		conj, _ := x.Conj().Inv()
		frob, _ := x.Frob().Inv()
		if conj != a.Conj() || frob != a.Frob() {
			t.Errorf("the inverses of Conj and Frob of %v", told(x))
		}
	}
}

// Triples are elements: their sums, products and inverses are the same ones.
func TestTriplesAreElements(t *testing.T) {
	l := elements(t, few(5))
	for i, x := range l {
		a, b := fq12.El{A: x.A}, fq12.El{A: l[(3*i+1)%len(l)].B}
		if a.Add(b) != (fq12.El{A: a.A.Add(b.A)}) || a.Sub(b) != (fq12.El{A: a.A.Sub(b.A)}) || a.Mul(b) != (fq12.El{A: a.A.Mul(b.A)}) || a.Neg() != (fq12.El{A: a.A.Neg()}) {
			t.Errorf("%v and %v", told(a), told(b))
		}
		inverse, e := a.Inv()
		own, again := a.A.Inv()
		if inverse != (fq12.El{A: own}) || e != again {
			t.Errorf("the inverse of %v: %v, %v", told(a), told(inverse), e)
		}
		if a.Mul(w) != (fq12.El{B: a.A}) || a.Mul(w).Mul(w) != (fq12.El{A: a.A.MulV()}) || a.Frob().B != (fq6.El{}) {
			t.Errorf("%v times w, and Frob of it", told(a))
		}
	}
}

// Whole numbers are elements: Of goes out over sums and products.
func TestOfGoesOut(t *testing.T) {
	for a := int64(-7); a <= 7; a++ {
		for b := int64(-7); b <= 7; b++ {
			x, y := fq12.Of(a), fq12.Of(b)
			if x.Add(y) != fq12.Of(a+b) || x.Sub(y) != fq12.Of(a-b) || x.Mul(y) != fq12.Of(a*b) || x.Neg() != fq12.Of(-a) {
				t.Errorf("%d and %d", a, b)
			}
			if (x == y) != (a == b) || x.Conj() != x || x.Frob() != x {
				t.Errorf("%d and %d, held against each other", a, b)
			}
		}
	}
}

// Unlike parts are unlike values.
func TestElementsAreTheirParts(t *testing.T) {
	seen := map[fq12.El]string{}
	for _, m := range some(100) {
		x := element(t, m)
		if other, ok := seen[x]; ok && other != m.String() {
			t.Errorf("%s and %v are one value", other, m)
		}
		seen[x] = m.String()
	}
	if len(seen) < 250 {
		t.Errorf("%d values", len(seen))
	}
}
