package fq6_test

import (
	"math"
	"math/big"
	"testing"

	"marlinspike/api"
	"marlinspike/fq2"
	"marlinspike/fq6"
)

// one, u, v and square are 1, u, v and v^2, put together by hand.
var (
	one    = fq6.El{A: fq2.Of(1, 0)}
	u      = fq6.El{A: fq2.Of(0, 1)}
	v      = fq6.El{B: fq2.Of(1, 0)}
	square = fq6.El{C: fq2.Of(1, 0)}
)

// P6.1

func TestOf(t *testing.T) {
	for _, n := range []int64{0, 1, -1, 2, -5, 255, 1 << 32, -1<<53 - 1, math.MaxInt64, math.MaxInt64 - 1, math.MinInt64, math.MinInt64 + 1} {
		want(t, "Of", fq6.Of(n), small(n, 0, 0, 0, 0, 0))
		if fq6.Of(n) != (fq6.El{A: fq2.Of(n, 0)}) {
			t.Errorf("Of(%d)", n)
		}
	}
}

func TestIsZero(t *testing.T) {
	x := fq6.El{A: fq2.Of(7, -3), B: fq2.Of(0, 2), C: fq2.Of(-1, 0)}
	zeros := []fq6.El{
		{}, fq6.Of(0), x.Sub(x), x.Add(x.Neg()), fq6.Of(0).Neg(), fq6.Of(0).MulV(),
		x.Mul(fq6.Of(0)), fq6.Of(0).Mul(x), x.Scale(fq2.Of(0, 0)), fq6.Of(0).Scale(fq2.Of(3, 4)),
	}
	for _, zero := range zeros {
		if !zero.IsZero() || zero != (fq6.El{}) {
			t.Errorf("a 0 is %v", told(zero))
		}
	}
	for _, m := range some(20) {
		if element(t, m).IsZero() != m.zero() {
			t.Errorf("%v is zero: %v", m, !m.zero())
		}
	}
	for _, x := range []fq6.El{one, u, v, square, v.Scale(fq2.Of(0, 1)), square.Scale(fq2.Of(0, 1)), one.Neg(), v.Neg(), square.Neg()} {
		if x.IsZero() {
			t.Errorf("%v is zero", told(x))
		}
	}
}

func TestAgainstLibrary(t *testing.T) {
	l := few(4)
	x := elements(t, l)
	for i, m := range l {
		for j, n := range l {
			want(t, "Add", x[i].Add(x[j]), m.add(n))
			want(t, "Sub", x[i].Sub(x[j]), m.add(n.neg()))
			want(t, "Mul", x[i].Mul(x[j]), m.mul(n))
		}
	}
	l = some(50)
	x = elements(t, l)
	for i, m := range l {
		j := (7*i + 3) % len(l)
		want(t, "Neg", x[i].Neg(), m.neg())
		want(t, "Add", x[i].Add(x[j]), m.add(l[j]))
		want(t, "Sub", x[i].Sub(x[j]), m.add(l[j].neg()))
		want(t, "Mul", x[i].Mul(x[j]), m.mul(l[j]))
		want(t, "Mul, with itself", x[i].Mul(x[i]), m.mul(m))
		want(t, "MulV", x[i].MulV(), m.mul(small(0, 0, 1, 0, 0, 0)))
	}
}

// Sums, differences and negatives are those of the parts.
func TestPartsStandApart(t *testing.T) {
	l := elements(t, some(20))
	for i, x := range l {
		y := l[(11*i+5)%len(l)]
		if x.Add(y) != (fq6.El{A: x.A.Add(y.A), B: x.B.Add(y.B), C: x.C.Add(y.C)}) {
			t.Errorf("%v and %v", told(x), told(y))
		}
		if x.Sub(y) != (fq6.El{A: x.A.Sub(y.A), B: x.B.Sub(y.B), C: x.C.Sub(y.C)}) {
			t.Errorf("%v less %v", told(x), told(y))
		}
		if x.Neg() != (fq6.El{A: x.A.Neg(), B: x.B.Neg(), C: x.C.Neg()}) {
			t.Errorf("the negative of %v", told(x))
		}
	}
}

// 1, v and v^2, each of them times 1 or u: their products go round, v^3 to u
// and u^2 to -5.
func TestProductsGoRound(t *testing.T) {
	power := func(n int) fq6.El { // v^n, n from 0 to 5
		x := [3]fq6.El{one, v, square}[n%3]
		if n > 2 {
			return fq6.El{A: timesU(x.A), B: timesU(x.B), C: timesU(x.C)}
		}
		return x
	}
	for i := range 6 {
		for j := range 6 {
			product := power((i + j) % 6)
			if i+j > 5 {
				product = product.Scale(fq2.Of(-5, 0))
			}
			if got := power(i).Mul(power(j)); got != product {
				t.Errorf("v^%d v^%d is %v", i, j, told(got))
			}
		}
		if i < 5 && power(i).MulV() != power(i+1) {
			t.Errorf("v^%d times v is %v", i, told(power(i).MulV()))
		}
	}
	if last := power(5).MulV(); last != fq6.Of(-5) {
		t.Errorf("v^5 times v is %v", told(last))
	}
}

// timesU is a pair times u, by the layer below.
func timesU(p fq2.El) fq2.El { return p.Mul(fq2.Of(0, 1)) }

// Of whole numbers, by the rule that v^3 is u.
func TestSmallNumbers(t *testing.T) {
	const top = 2
	var l []fq6.El
	var at [][3]int64
	for a := int64(-top); a <= top; a++ {
		for b := int64(-top); b <= top; b++ {
			for c := int64(-top); c <= top; c++ {
				l = append(l, fq6.El{A: fq2.Of(a, 0), B: fq2.Of(b, 0), C: fq2.Of(c, 0)})
				at = append(at, [3]int64{a, b, c})
			}
		}
	}
	for i := range l {
		for j := range l {
			x, y := at[i], at[j]
			product := fq6.El{
				A: fq2.Of(x[0]*y[0], x[1]*y[2]+x[2]*y[1]),
				B: fq2.Of(x[0]*y[1]+x[1]*y[0], x[2]*y[2]),
				C: fq2.Of(x[0]*y[2]+x[1]*y[1]+x[2]*y[0], 0),
			}
			if l[i].Mul(l[j]) != product || (l[i] == l[j]) != (x == y) {
				t.Errorf("%v and %v", x, y)
			}
		}
	}
}

func TestMulV(t *testing.T) {
	for _, m := range some(50) {
		x := element(t, m)
		if x.MulV() != (fq6.El{A: timesU(x.C), B: x.A, C: x.B}) {
			t.Errorf("%v times v is %v", m, told(x.MulV()))
		}
		if x.MulV() != x.Mul(v) || x.MulV() != v.Mul(x) || x.MulV().MulV() != x.Mul(square) {
			t.Errorf("%v times v, by MulV and by Mul", m)
		}
		if thrice := x.MulV().MulV().MulV(); thrice != x.Scale(fq2.Of(0, 1)) || thrice != x.Mul(u) {
			t.Errorf("%v times v, three times, is %v", m, told(thrice))
		}
		six := x
		for range 6 {
			six = six.MulV()
		}
		if six != x.Scale(fq2.Of(-5, 0)) {
			t.Errorf("%v times v, six times, is %v", m, told(six))
		}
	}
}

func TestScale(t *testing.T) {
	var others numbers
	scales := []fq2.El{
		fq2.Of(0, 0), fq2.Of(1, 0), fq2.Of(0, 1), fq2.Of(-1, 0), fq2.Of(0, -1), fq2.Of(2, 3),
		fq2.Of(math.MinInt64, math.MaxInt64), {A: coordinate(t, others.next()), B: coordinate(t, others.next())},
	}
	for _, m := range some(30) {
		x := element(t, m)
		for _, s := range scales {
			if x.Scale(s) != (fq6.El{A: x.A.Mul(s), B: x.B.Mul(s), C: x.C.Mul(s)}) {
				t.Errorf("%v times %x + %x u", m, s.A.Nat(), s.B.Nat())
			}
			if x.Scale(s) != x.Mul(fq6.El{A: s}) {
				t.Errorf("%v times %x + %x u, by Scale and by Mul", m, s.A.Nat(), s.B.Nat())
			}
		}
		if !x.Scale(scales[0]).IsZero() || x.Scale(scales[1]) != x || x.Scale(scales[2]) != x.Mul(u) || x.Scale(scales[3]) != x.Neg() {
			t.Errorf("%v times 0, 1, u, -1", m)
		}
		want(t, "Scale by u", x.Scale(scales[2]), m.mul(small(0, 1, 0, 0, 0, 0)))
		want(t, "Scale by 2 + 3 u", x.Scale(scales[5]), m.mul(small(2, 3, 0, 0, 0, 0)))
	}
}

// P6.2

func TestInv(t *testing.T) {
	for _, m := range some(100) {
		if m.zero() {
			continue
		}
		x, e := element(t, m).Inv()
		if e != api.OK {
			t.Errorf("Inv(%v): %v", m, e)
		}
		if product := told(x).mul(m); !product.same(small(1, 0, 0, 0, 0, 0)) {
			t.Errorf("%v times its inverse is %v", m, product)
		}
		want(t, "Inv", x, told(x))
	}
}

// An element of one part: its inverse is of one part too, of that part's.
func TestInvOfOnePart(t *testing.T) {
	parts := []fq2.El{fq2.Of(1, 0), fq2.Of(0, 1), fq2.Of(-1, 0), fq2.Of(2, 3), fq2.Of(0, -7), fq2.Of(math.MaxInt64, math.MinInt64)}
	perU, _ := fq2.Of(0, 1).Inv()
	for _, p := range parts {
		inverse, _ := p.Inv()
		table := []struct{ x, inverse fq6.El }{
			{fq6.El{A: p}, fq6.El{A: inverse}},
			{fq6.El{B: p}, fq6.El{C: inverse.Mul(perU)}}, // 1 / v is v^2 / u
			{fq6.El{C: p}, fq6.El{B: inverse.Mul(perU)}}, // 1 / v^2 is v / u
		}
		for i, row := range table {
			if got, e := row.x.Inv(); got != row.inverse || e != api.OK {
				t.Errorf("Inv of the part %d alone, %v: %v, %v", i, told(row.x), told(got), e)
			}
		}
	}
}

// An element of two parts, by what it is times another one: (s + t)(s^2 - s t +
// t^2) is s^3 + t^3, and the cubes of parts are pairs.
func TestInvOfTwoParts(t *testing.T) {
	var others numbers
	for range 20 {
		pair := func() fq2.El { return fq2.El{A: coordinate(t, others.next()), B: coordinate(t, others.next())} }
		a, b := pair(), pair()
		for _, two := range [][2]fq6.El{{{A: a}, {B: b}}, {{A: a}, {C: b}}, {{B: a}, {C: b}}, {{A: a}, {B: a}}, {{B: b}, {C: b.Neg()}}} {
			s, r := two[0], two[1]
			cubes := s.Mul(s).Mul(s).Add(r.Mul(r).Mul(r))
			if cubes != (fq6.El{A: cubes.A}) {
				t.Fatalf("the cubes of %v and %v", told(s), told(r))
			}
			per, _ := cubes.A.Inv()
			inverse := s.Mul(s).Sub(s.Mul(r)).Add(r.Mul(r)).Scale(per)
			if got, e := s.Add(r).Inv(); got != inverse || e != api.OK {
				t.Errorf("Inv(%v): %v, %v", told(s.Add(r)), told(got), e)
			}
		}
	}
}

// An element of three parts: 1 + v + v^2 times 1 - v is 1 - v^3, that is 1 - u.
func TestInvOfThreeParts(t *testing.T) {
	x := fq6.El{A: fq2.Of(1, 0), B: fq2.Of(1, 0), C: fq2.Of(1, 0)}
	per, _ := fq2.Of(1, -1).Inv()
	if got, e := x.Inv(); got != one.Sub(v).Scale(per) || e != api.OK {
		t.Errorf("Inv(1 + v + v^2): %v, %v", told(got), e)
	}
}

func TestInvRefuses(t *testing.T) {
	x := fq6.El{A: fq2.Of(3, 8), B: fq2.Of(-1, 0), C: fq2.Of(0, 6)}
	for _, zero := range []fq6.El{{}, fq6.Of(0), x.Sub(x), x.Scale(fq2.Of(0, 0)), fq6.Of(0).MulV(), fq6.Of(0).Neg()} {
		if inverse, e := zero.Inv(); inverse != (fq6.El{}) || e != api.ErrZero {
			t.Errorf("Inv(0): %v, %v", told(inverse), e)
		}
	}
}

// As u is no cube, what has an inverse is all but 0: there are no other
// elements of which a product is 0.
func TestUIsNoCube(t *testing.T) {
	order := new(big.Int).Mul(q(), q())
	order.Sub(order, big.NewInt(1))
	third, rest := new(big.Int).DivMod(order, big.NewInt(3), new(big.Int))
	if rest.Sign() != 0 {
		t.Fatal("3 does not go into q^2 - 1")
	}
	p := fq2.Of(0, 1).Pow(fromBig(third))
	if p == fq2.Of(1, 0) || p.Mul(p).Mul(p) != fq2.Of(1, 0) {
		t.Errorf("u to the (q^2 - 1) / 3 is %x + %x u", p.A.Nat(), p.B.Nat())
	}
}

// The document's examples.
func TestExamples(t *testing.T) {
	if v.Mul(square) != u || square.Mul(square) != v.Scale(fq2.Of(0, 1)) || one.Add(v).Mul(one.Sub(v)) != one.Sub(square) {
		t.Error("products")
	}
	per, _ := fq2.Of(0, 1).Inv()
	if inverse, e := v.Inv(); inverse != square.Scale(per) || e != api.OK {
		t.Errorf("Inv(v): %v, %v", told(inverse), e)
	}
	if inverse, e := fq6.Of(0).Inv(); inverse != (fq6.El{}) || e != api.ErrZero {
		t.Errorf("Inv(0): %v, %v", told(inverse), e)
	}
}
