package fq12_test

import (
	"math"
	"math/big"
	"slices"
	"testing"

	"marlinspike/api"
	"marlinspike/fq"
	"marlinspike/fq12"
	"marlinspike/fq2"
	"marlinspike/fq6"
)

// one, u, v and w are 1, u, v and w, put together by hand.
var (
	one = fq12.El{A: fq6.El{A: fq2.Of(1, 0)}}
	u   = fq12.El{A: fq6.El{A: fq2.Of(0, 1)}}
	v   = fq12.El{A: fq6.El{B: fq2.Of(1, 0)}}
	w   = fq12.El{B: fq6.El{A: fq2.Of(1, 0)}}
)

// part is the element of which one part is p, and the others are 0.
func part(i int, p fq2.El) fq12.El {
	var parts [6]fq2.El
	parts[i] = p
	return fq12.Join(parts)
}

// P7.1

func TestOf(t *testing.T) {
	for _, n := range []int64{0, 1, -1, 2, -5, 255, 1 << 32, -1<<53 - 1, math.MaxInt64, math.MaxInt64 - 1, math.MinInt64, math.MinInt64 + 1} {
		want(t, "Of", fq12.Of(n), small(n))
		if fq12.Of(n) != (fq12.El{A: fq6.Of(n)}) {
			t.Errorf("Of(%d)", n)
		}
	}
}

func TestIsZero(t *testing.T) {
	x := element(t, small(7, -3, 0, 2, -1, 0, 5))
	zeros := []fq12.El{
		{}, fq12.Of(0), fq12.Join([6]fq2.El{}), x.Sub(x), x.Add(x.Neg()), fq12.Of(0).Neg(), fq12.Of(0).Conj(), fq12.Of(0).Frob(),
		x.Mul(fq12.Of(0)), fq12.Of(0).Mul(x), fq12.Of(0).Pow([]uint64{3}),
	}
	for _, zero := range zeros {
		if !zero.IsZero() || zero != (fq12.El{}) {
			t.Errorf("a 0 is %v", told(zero))
		}
	}
	for _, m := range some(20) {
		if element(t, m).IsZero() != m.zero() {
			t.Errorf("%v is zero: %v", m, !m.zero())
		}
	}
	for i := range 12 { // of each coordinate alone
		for _, n := range []int64{1, -1} {
			if element(t, at(i, n)).IsZero() {
				t.Errorf("%d w^%d is zero", n, i)
			}
		}
	}
}

// Each part alone stands in its place.
func TestJoinOfOnePart(t *testing.T) {
	pairs := []fq2.El{fq2.Of(1, 0), fq2.Of(0, 1), fq2.Of(-1, 0), fq2.Of(2, 3), fq2.Of(math.MinInt64, math.MaxInt64), {}}
	for _, p := range pairs {
		table := [6]fq12.El{
			{A: fq6.El{A: p}}, {B: fq6.El{A: p}}, {A: fq6.El{B: p}}, {B: fq6.El{B: p}}, {A: fq6.El{C: p}}, {B: fq6.El{C: p}},
		}
		power := fq12.El{A: fq6.El{A: p}} // p w^i
		for i, x := range table {
			parts := [6]fq2.El{}
			parts[i] = p
			if got := fq12.Join(parts); got != x || got != power {
				t.Errorf("Join of the part %d alone is %v", i, told(got))
			}
			if x.Parts() != parts {
				t.Errorf("Parts of the part %d alone are %v", i, told(fq12.Join(x.Parts())))
			}
			power = power.Mul(w)
		}
	}
}

func TestJoinAndParts(t *testing.T) {
	for _, m := range some(50) {
		x := element(t, m)
		parts := x.Parts()
		for i, p := range parts {
			if bigOf(p.A.Nat()).Cmp(m[i]) != 0 || bigOf(p.B.Nat()).Cmp(m[i+6]) != 0 {
				t.Errorf("the part %d of %v", i, m)
			}
		}
		want(t, "Join", fq12.Join(parts), m)
		var sum fq12.El
		for i, p := range parts {
			sum = sum.Add(fq12.El{A: fq6.El{A: p}}.Mul(w.Pow([]uint64{uint64(i)})))
		}
		if sum != x {
			t.Errorf("%v by its parts is %v", m, told(sum))
		}
		slices.Reverse(parts[:])
		if turned := fq12.Join(parts); turned.Parts() != parts {
			t.Errorf("the parts of %v, turned", m)
		}
	}
}

func TestAgainstLibrary(t *testing.T) {
	l := few(4)
	x := elements(t, l)
	for i, m := range l {
		for j, n := range l {
			want(t, "Add", x[i].Add(x[j]), m.add(n))
			want(t, "Sub", x[i].Sub(x[j]), m.add(n.neg()))
			want(t, "Mul", x[i].Mul(x[j]), m.mul(n))
		}
	}
	l = some(50)
	x = elements(t, l)
	for i, m := range l {
		j := (7*i + 3) % len(l)
		want(t, "Neg", x[i].Neg(), m.neg())
		want(t, "Add", x[i].Add(x[j]), m.add(l[j]))
		want(t, "Sub", x[i].Sub(x[j]), m.add(l[j].neg()))
		want(t, "Mul", x[i].Mul(x[j]), m.mul(l[j]))
		want(t, "Mul, with itself", x[i].Mul(x[i]), m.mul(m))
	}
}

// Sums, differences and negatives are those of the triples, and of the parts.
func TestPartsStandApart(t *testing.T) {
	l := elements(t, some(20))
	for i, x := range l {
		y := l[(11*i+5)%len(l)]
		if x.Add(y) != (fq12.El{A: x.A.Add(y.A), B: x.B.Add(y.B)}) || x.Sub(y) != (fq12.El{A: x.A.Sub(y.A), B: x.B.Sub(y.B)}) {
			t.Errorf("%v and %v", told(x), told(y))
		}
		sum, left, negative := x.Add(y).Parts(), x.Sub(y).Parts(), x.Neg().Parts()
		for j, p := range x.Parts() {
			other := y.Parts()[j]
			if sum[j] != p.Add(other) || left[j] != p.Sub(other) || negative[j] != p.Neg() {
				t.Errorf("the part %d of %v and %v", j, told(x), told(y))
			}
		}
	}
}

// The powers of w go round: w^6 to u, w^12 to -5.
func TestProductsGoRound(t *testing.T) {
	for i := range 12 {
		x := element(t, at(i, 1))
		for j := range 12 {
			product := at((i+j)%12, 1)
			if i+j > 11 {
				product = at((i+j)%12, -5)
			}
			want(t, "a product of powers of w", x.Mul(element(t, at(j, 1))), product)
		}
		want(t, "a power of w", w.Pow([]uint64{uint64(i)}), at(i, 1))
		want(t, "a power of w, gone round", w.Pow([]uint64{uint64(i + 12)}), at(i, -5))
	}
	if w.Mul(w) != v || v.Mul(v).Mul(v) != u || u.Mul(u) != fq12.Of(-5) {
		t.Error("w w, v v v, u u")
	}
}

// Of whole numbers, by the rule that w^2 is v, that w^4 is v^2 and w^6 is u.
func TestSmallNumbers(t *testing.T) {
	const top = 1
	var l []fq12.El
	var all [][4]int64
	for n := range 81 {
		a := [4]int64{int64(n%3) - top, int64(n/3%3) - top, int64(n/9%3) - top, int64(n/27) - top}
		l = append(l, element(t, small(a[0], a[1], a[2], a[3])))
		all = append(all, a)
	}
	for i, x := range all {
		for j, y := range all {
			var product [7]int64
			for n, a := range x {
				for k, b := range y {
					product[n+k] += a * b
				}
			}
			got := l[i].Mul(l[j])
			if got != element(t, small(product[:]...)) || got.A.A != fq2.Of(product[0], product[6]) || (l[i] == l[j]) != (x == y) {
				t.Errorf("%v and %v", x, y)
			}
		}
	}
}

func TestPow(t *testing.T) {
	half := new(big.Int).Rsh(q(), 1)
	exponents := [][]uint64{
		nil, {}, {0}, {0, 0, 0}, {1}, {1, 0, 0}, {2}, {3}, {4}, {5}, {12}, {64}, {1 << 63}, {1<<64 - 1},
		{0, 1}, {1, 1}, {0, 0, 1}, {5, 6, 7, 8}, {9, 0, 0, 0, 7, 0, 0},
		fromBig(q()), fromBig(power(1, -1)), fromBig(power(1, 1)), fromBig(half),
		make([]uint64, api.MaxWords+1), append([]uint64{6}, make([]uint64, api.MaxWords)...),
	}
	for i, m := range few(1) {
		x := element(t, m)
		for j, e := range exponents {
			if bigOf(e).BitLen() < 260 || (i+j)%3 == 0 { // the greater ones take long
				want(t, "Pow", x.Pow(e), m.pow(bigOf(e)))
			}
		}
	}
	m := small(2, 3, 0, 0, 0, -1, 0, 4)
	x := element(t, m)
	for _, e := range [][]uint64{fromBig(q()), fromBig(power(2, 0)), fromBig(power(3, -1)), append(fromBig(power(1, 0)), 0, 0, 0)} {
		want(t, "Pow", x.Pow(e), m.pow(bigOf(e)))
	}
}

// Exponents have no limit of words.
func TestPowOfManyWords(t *testing.T) {
	m := small(1, 0, 2, -3)
	ones := slices.Repeat([]uint64{1<<64 - 1}, 20)
	sparse := append(append(make([]uint64, api.MaxWords+1), 5), 0, 0)
	for _, e := range [][]uint64{ones, sparse} {
		want(t, "Pow, of many words", element(t, m).Pow(e), m.pow(bigOf(e)))
	}
	long := slices.Repeat([]uint64{1<<64 - 1}, api.MaxWords+3)
	if element(t, m).Pow(long) != element(t, m).Pow(fromBig(new(big.Int).Mod(bigOf(long), power(12, -1)))) {
		t.Error("a power of more words than a number may have")
	}
}

func TestPowersOfNought(t *testing.T) {
	for _, none := range [][]uint64{nil, {}, {0}, make([]uint64, 200), make([]uint64, 20000)} {
		for _, x := range []fq12.El{{}, one, u, v, w, w.Neg(), fq12.Of(7).Add(w)} {
			if x.Pow(none) != one {
				t.Errorf("%v to the 0, of %d words", told(x), len(none))
			}
		}
	}
	for _, e := range [][]uint64{{1}, {2}, {0, 1}, {1<<64 - 1, 1<<64 - 1, 0}, fromBig(q())} {
		if (fq12.El{}).Pow(e) != (fq12.El{}) || one.Pow(e) != one {
			t.Errorf("0 and 1 to the %x", e)
		}
	}
}

func TestSmallPowers(t *testing.T) {
	for _, x := range []fq12.El{w, u, w.Neg(), v.Add(w), element(t, small(2, 0, -1, 3, 0, 7, 1, 1)), one.Neg(), {}} {
		product := one
		for n := range uint64(70) {
			if x.Pow([]uint64{n}) != product || x.Pow([]uint64{n, 0}) != product {
				t.Errorf("%v to the %d", told(x), n)
			}
			product = product.Mul(x)
		}
	}
}

// P7.2

func TestConj(t *testing.T) {
	for _, m := range some(100) {
		x := element(t, m)
		want(t, "Conj", x.Conj(), m.conj())
		if x.Conj() != (fq12.El{A: x.A, B: x.B.Neg()}) || x.Conj().Conj() != x {
			t.Errorf("Conj of %v is %v", m, told(x.Conj()))
		}
		alone, timesW := fq12.El{A: x.A}, fq12.El{B: x.A}
		if alone.Conj() != alone || timesW.Conj() != timesW.Neg() || timesW.Conj() != alone.Mul(w.Neg()) {
			t.Errorf("Conj of the triple of %v, alone and times w", m)
		}
		if x.Mul(x.Conj()).B != (fq6.El{}) || x.Add(x.Conj()).B != (fq6.El{}) {
			t.Errorf("%v with its Conj is no triple", m)
		}
	}
}

func TestFrob(t *testing.T) {
	for _, m := range few(4) {
		want(t, "Frob", element(t, m).Frob(), m.pow(q()))
	}
	for _, m := range some(10) {
		x := element(t, m)
		if x.Frob() != x.Pow(fq.Modulus()) {
			t.Errorf("Frob of %v is %v", m, told(x.Frob()))
		}
	}
}

// Once, twice, .., twelve times: the powers by q, q^2, .., q^12.
func TestFrobManyTimes(t *testing.T) {
	l := []fq12.El{w, v.Add(w), element(t, small(2, 3, 5, 7, 11, 13, 17, 19, 23, 29, 31, 37))}
	for _, x := range l {
		y := x
		for n := range int64(12) {
			y = y.Frob()
			if (n < 3 || n == 5 || n == 11) && y != x.Pow(fromBig(power(n+1, 0))) {
				t.Errorf("%v to the q^%d is not %v", told(x), n+1, told(y))
			}
			if (n == 5) != (y == x.Conj()) || (n == 11) != (y == x) {
				t.Errorf("%v, %d times Frob, is %v", told(x), n+1, told(y))
			}
		}
	}
}

// Of what stands in the smaller fields: numbers stay, pairs become their Conj,
// and w becomes w times a coordinate.
func TestFrobOfParts(t *testing.T) {
	twelfth := power(1, -1)
	if rest := new(big.Int).Mod(twelfth, big.NewInt(12)); rest.Sign() != 0 {
		t.Fatal("12 does not go into q - 1")
	}
	twelfth.Div(twelfth, big.NewInt(12))
	turn := new(big.Int).Exp(byQ(big.NewInt(-5)), twelfth, q())
	var others numbers
	pairs := []fq2.El{{}, fq2.Of(1, 0), fq2.Of(0, 1), fq2.Of(-7, 0), fq2.Of(3, -4), {A: coordinate(t, others.next()), B: coordinate(t, others.next())}}
	for i := range 6 {
		factor := fq2.El{A: coordinate(t, new(big.Int).Exp(turn, big.NewInt(int64(i)), nil))}
		for _, p := range pairs {
			if got := part(i, p).Frob(); got != part(i, p.Conj().Mul(factor)) {
				t.Errorf("Frob of the part %d alone, %x + %x u, is %v", i, p.A.Nat(), p.B.Nat(), told(got))
			}
		}
	}
	for _, n := range []int64{0, 1, -1, math.MaxInt64, math.MinInt64} {
		if fq12.Of(n).Frob() != fq12.Of(n) {
			t.Errorf("Frob of %d", n)
		}
	}
	if u.Frob() != u.Neg() || w.Frob() == w {
		t.Error("Frob of u and w")
	}
}

// P7.3

func TestInv(t *testing.T) {
	for _, m := range some(100) {
		if m.zero() {
			continue
		}
		x, e := element(t, m).Inv()
		if e != api.OK {
			t.Errorf("Inv(%v): %v", m, e)
		}
		if product := told(x).mul(m); !product.same(small(1)) {
			t.Errorf("%v times its inverse is %v", m, product)
		}
		want(t, "Inv", x, told(x))
	}
}

// An element of one part: its inverse is of one part too. That of w^i is w^(6 -
// i) / u, but for i 0.
func TestInvOfOnePart(t *testing.T) {
	perU, _ := fq2.Of(0, 1).Inv()
	for _, p := range []fq2.El{fq2.Of(1, 0), fq2.Of(0, 1), fq2.Of(-1, 0), fq2.Of(2, 3), fq2.Of(0, -7), fq2.Of(math.MaxInt64, math.MinInt64)} {
		inverse, _ := p.Inv()
		for i := range 6 {
			per := part(0, inverse)
			if i > 0 {
				per = part(6-i, inverse.Mul(perU))
			}
			if got, e := part(i, p).Inv(); got != per || e != api.OK {
				t.Errorf("Inv of the part %d alone, %x + %x u: %v, %v", i, p.A.Nat(), p.B.Nat(), told(got), e)
			}
		}
	}
}

// 1 - w times 1 + w + .. + w^5 is 1 - w^6, that is 1 - u.
func TestInvOfSixParts(t *testing.T) {
	six := element(t, small(1, 1, 1, 1, 1, 1))
	per, _ := fq2.Of(1, -1).Inv()
	scale := fq12.El{A: fq6.El{A: per}}
	if got, e := six.Inv(); got != one.Sub(w).Mul(scale) || e != api.OK {
		t.Errorf("Inv(1 + w + .. + w^5): %v, %v", told(got), e)
	}
	if got, e := one.Sub(w).Inv(); got != six.Mul(scale) || e != api.OK {
		t.Errorf("Inv(1 - w): %v, %v", told(got), e)
	}
}

func TestInvRefuses(t *testing.T) {
	x := element(t, small(3, 8, -1, 0, 0, 6, 0, 2))
	for _, zero := range []fq12.El{{}, fq12.Of(0), x.Sub(x), x.Mul(fq12.El{}), fq12.Join([6]fq2.El{}), fq12.Of(0).Conj(), fq12.Of(0).Frob(), fq12.Of(0).Neg()} {
		if inverse, e := zero.Inv(); inverse != (fq12.El{}) || e != api.ErrZero {
			t.Errorf("Inv(0): %v, %v", told(inverse), e)
		}
	}
}

// The document's examples.
func TestExamples(t *testing.T) {
	if w.Mul(w) != v || w.Pow([]uint64{6}) != u || one.Add(w).Mul(one.Sub(w)) != one.Sub(v) {
		t.Error("products")
	}
	if one.Add(w).Conj() != one.Sub(w) {
		t.Error("Conj(1 + w)")
	}
	if inverse, e := fq12.Of(0).Inv(); inverse != (fq12.El{}) || e != api.ErrZero {
		t.Errorf("Inv(0): %v, %v", told(inverse), e)
	}
}
