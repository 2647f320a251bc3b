package poly_test

import (
	"slices"
	"strconv"
	"testing"

	"marlinspike/api"
	"marlinspike/fr"
	"marlinspike/poly"
)

// P13.5

func TestPolynomialsAreARing(t *testing.T) {
	l := some()
	for i, p := range l {
		alone(t, p)
		for j, q := range l {
			two(t, p, q)
			three(t, p, q, l[(3*i+5*j+1)%len(l)])
		}
	}
}

// equal fails if not all of some polynomials are the same, scalar by scalar.
func equal(t *testing.T, what string, first []fr.El, others ...[]fr.El) {
	t.Helper()
	for _, p := range others {
		want(t, what, p, first)
		if !poly.Same(p, first) {
			t.Errorf("%s: Same of %s and %s is false", what, text(p), text(first))
		}
	}
}

func alone(t *testing.T, p []fr.El) {
	t.Helper()
	one := poly.Of(fr.Of(1))
	equal(t, text(p)+" with 0 and 1", p, poly.Add(p, nil), poly.Add(nil, p), poly.Sub(p, nil), poly.Mul(p, one), poly.Mul(one, p), poly.Scale(p, fr.Of(1)))
	equal(t, text(p)+" and 0", nil, poly.Mul(p, nil), poly.Mul(nil, p), poly.Mul(p, list(0)), poly.Mul(zeros(3), p), poly.Sub(p, p), poly.Scale(p, fr.El{}))
	minus := poly.Sub(nil, p)
	equal(t, text(p)+" with its negative", nil, poly.Add(p, minus), poly.Add(minus, p))
	equal(t, "the negative of "+text(p), minus, poly.Scale(p, fr.Of(-1)), poly.Mul(list(-1), p))
	equal(t, text(p)+" twice", poly.Add(p, p), poly.Scale(p, fr.Of(2)), poly.Mul(p, list(2)))
}

func two(t *testing.T, p, q []fr.El) {
	t.Helper()
	what := text(p) + " and " + text(q)
	plus, less, times := poly.Add(p, q), poly.Sub(p, q), poly.Mul(p, q)
	equal(t, "the sum of "+what, plus, poly.Add(q, p), poly.Sub(p, poly.Sub(nil, q)))
	equal(t, "the difference of "+what, less, poly.Sub(nil, poly.Sub(q, p)), poly.Add(p, poly.Scale(q, fr.Of(-1))))
	equal(t, "the product of "+what, times, poly.Mul(q, p))
	equal(t, "there and back of "+what, p, poly.Sub(plus, q), poly.Add(less, q))
	equal(t, "the difference of squares of "+what, poly.Mul(plus, less), poly.Sub(poly.Mul(p, p), poly.Mul(q, q)))
	if n, m := count(p), count(q); n > 0 && m > 0 && len(times) != n+m-1 || n*m == 0 && len(times) != 0 {
		t.Errorf("the product of %s: of %d and %d scalars it has %d", what, n, m, len(times))
	}
	if poly.Same(p, q) != (len(less) == 0) {
		t.Errorf("%s: Same is %v, and the difference %s", what, poly.Same(p, q), text(less))
	}
}

func three(t *testing.T, p, q, s []fr.El) {
	t.Helper()
	what := text(p) + ", " + text(q) + ", " + text(s)
	equal(t, "the sum of "+what, poly.Add(p, poly.Add(q, s)), poly.Add(poly.Add(p, q), s))
	equal(t, "the product of "+what, poly.Mul(p, poly.Mul(q, s)), poly.Mul(poly.Mul(p, q), s))
	equal(t, "the product with a sum of "+what, poly.Mul(p, poly.Add(q, s)), poly.Add(poly.Mul(p, q), poly.Mul(p, s)))
	equal(t, "the product with a difference of "+what, poly.Mul(poly.Sub(p, q), s), poly.Sub(poly.Mul(p, s), poly.Mul(q, s)))
}

// Multiples, and products with powers, are products too.
func TestMultiplesAndShiftsAreProducts(t *testing.T) {
	for _, p := range some() {
		for _, s := range places() {
			for _, x := range places() {
				equal(t, "multiples of "+text(p), poly.Scale(p, s.Mul(x)), poly.Scale(poly.Scale(p, s), x))
				equal(t, "multiples of "+text(p), poly.Scale(p, s.Add(x)), poly.Add(poly.Scale(p, s), poly.Scale(p, x)))
			}
			equal(t, "a multiple of "+text(p), poly.Scale(p, s), poly.Mul(p, []fr.El{s}), poly.Mul([]fr.El{s, {}}, p))
		}
		for n := range 9 {
			first, e := poly.Shift(p, n)
			both, of := poly.Shift(first, 8-n)
			all, other := poly.Shift(p, 8)
			if e != api.OK || of != api.OK || other != api.OK {
				t.Errorf("%v, %v, %v", e, of, other)
			}
			equal(t, "shifts of "+text(p), all, both)
		}
	}
}

func TestWorthGoesBySumsAndProducts(t *testing.T) {
	for _, p := range some() {
		for _, q := range some() {
			for _, z := range places() {
				atP, atQ := poly.Eval(p, z), poly.Eval(q, z)
				if poly.Eval(poly.Add(p, q), z) != atP.Add(atQ) || poly.Eval(poly.Sub(p, q), z) != atP.Sub(atQ) || poly.Eval(poly.Mul(p, q), z) != atP.Mul(atQ) {
					t.Errorf("%s and %s at %s", text(p), text(q), big10(z))
				}
			}
		}
		for _, z := range places() {
			if poly.Eval(poly.Scale(p, z), z) != z.Mul(poly.Eval(p, z)) {
				t.Errorf("a multiple of %s at %s", text(p), big10(z))
			}
			shifted, _ := poly.Shift(p, 5)
			if poly.Eval(shifted, z) != z.Pow([]uint64{5}).Mul(poly.Eval(p, z)) {
				t.Errorf("%s, shifted, at %s", text(p), big10(z))
			}
		}
	}
}

// The rest by Z - z is what a polynomial is worth at z, so that one that is 0
// there is a product.
func TestRootsAreFactors(t *testing.T) {
	for _, p := range some() {
		for _, z := range places() {
			factor := []fr.El{z.Neg(), fr.Of(1)}
			worth := poly.Eval(p, z)
			_, rest := wantDivided(t, text(p)+" by Z less "+big10(z), p, factor)
			want(t, "the rest of "+text(p)+" by Z less "+big10(z), rest, []fr.El{worth})
			zero := poly.Sub(p, []fr.El{worth}) // that is 0 at z
			if poly.Eval(zero, z) != (fr.El{}) {
				t.Errorf("%s at %s is not 0", text(zero), big10(z))
			}
			quotient, rest := wantDivided(t, text(zero)+" by Z less "+big10(z), zero, factor)
			equal(t, text(zero)+" as a product", zero, poly.Mul(quotient, factor), poly.Mul(factor, quotient))
			want(t, "the rest of "+text(zero), rest, nil)
		}
	}
}

// zeroAt are those of some places where a polynomial is worth 0.
func zeroAt(p, places []fr.El) (l []fr.El) {
	for _, z := range places {
		if poly.Eval(p, z) == (fr.El{}) {
			l = append(l, z)
		}
	}
	return l
}

func TestNoMoreRootsThanTheDegree(t *testing.T) {
	near := from(-40, 80)
	for _, p := range some() {
		if n := count(p); n > 0 && len(zeroAt(p, near)) >= n {
			t.Errorf("%s is 0 at %d places", text(p), len(zeroAt(p, near)))
		}
	}
	s := numbers{state: 20}
	p, roots := []fr.El{s.scalar()}, []fr.El(nil)
	for n := range int64(15) {
		root := fr.Of(n * n % 11) // some come again
		p = poly.Mul(p, []fr.El{root.Neg(), fr.Of(1)})
		if !slices.Contains(roots, root) {
			roots = append(roots, root)
		}
		found := zeroAt(p, near)
		for _, z := range roots {
			if !slices.Contains(found, z) {
				t.Errorf("after %d: %s is no root", n, big10(z))
			}
		}
		if len(p) != int(n)+2 || len(found) != len(roots) {
			t.Errorf("after %d: %d scalars, 0 at %d places, not %d", n, len(p), len(found), len(roots))
		}
	}
	for k := range 6 { // Z^n - 1 is 0 at n places, the powers of a root of 1
		n := 1 << k
		root, _ := fr.Root(64)
		powers := []fr.El{fr.Of(1)}
		for range 63 {
			powers = append(powers, powers[len(powers)-1].Mul(root))
		}
		shifted, e := poly.Shift(list(1), n)
		found := zeroAt(poly.Sub(shifted, list(1)), append(powers, from(2, 60)...))
		if len(found) != n || e != api.OK {
			t.Errorf("Z^%d - 1 is 0 at %d places: %v", n, len(found), e)
		}
	}
}

// Quotient and rest are these alone: whatever is put together of them, and goes
// by their degrees, is told apart again.
func TestDivisionGoesOutOverSums(t *testing.T) {
	l := some()
	for i, p := range l {
		for j, q := range l {
			by := l[(5*i+3*j)%len(l)]
			if count(by) == 0 {
				continue
			}
			q1, r1, _ := poly.DivMod(p, by)
			q2, r2, _ := poly.DivMod(q, by)
			q3, r3, e := poly.DivMod(poly.Add(p, q), by)
			if e != api.OK {
				t.Error(e)
			}
			equal(t, "the quotient of a sum by "+text(by), q3, poly.Add(q1, q2))
			equal(t, "the rest of a sum by "+text(by), r3, poly.Add(r1, r2))
			_, r4, _ := poly.DivMod(poly.Mul(p, q), by)
			_, r5, _ := poly.DivMod(poly.Mul(r1, r2), by)
			equal(t, "the rest of a product by "+text(by), r4, r5)
		}
	}
}

// Points are of one polynomial alone, in whatever order they come, and it goes
// by sums of ys.
func TestPointsAreOfOnePolynomial(t *testing.T) {
	s := numbers{state: 21}
	for n := range 9 {
		what := strconv.Itoa(n) + " points"
		xs, ys, more := s.scalars(n), s.scalars(n), s.scalars(n)
		p, q := wantThrough(t, what, xs, ys), wantThrough(t, what, xs, more)
		both := zeros(n)
		for i := range both {
			both[i] = ys[i].Add(more[i])
		}
		equal(t, what+", together", poly.Add(p, q), wantThrough(t, what, xs, both))
		for turn := range n {
			turnedX := append(slices.Clone(xs[turn:]), xs[:turn]...)
			turnedY := append(slices.Clone(ys[turn:]), ys[:turn]...)
			equal(t, what+", turned", p, wantThrough(t, what, turnedX, turnedY))
		}
		for i := range n { // without one of them it is another one, by that of all the others
			fewX := slices.Delete(slices.Clone(xs), i, i+1)
			fewY := slices.Delete(slices.Clone(ys), i, i+1)
			through := poly.Of(fr.Of(1))
			for _, x := range fewX {
				through = poly.Mul(through, []fr.El{x.Neg(), fr.Of(1)})
			}
			_, rest := wantDivided(t, what, p, through)
			equal(t, what+", all but one", rest, wantThrough(t, what, fewX, fewY))
		}
	}
}
