package domain_test

import (
	"math"
	"math/big"
	"slices"
	"strconv"
	"testing"

	"marlinspike/api"
	"marlinspike/domain"
	"marlinspike/fr"
	"marlinspike/poly"
)

// P14.1

func TestNewAndSize(t *testing.T) {
	if api.MaxDomain != 65536 {
		t.Error("MaxDomain is another one")
	}
	for n := 1; n <= api.MaxDomain; n *= 2 {
		d, e := domain.New(n)
		if d == nil || e != api.OK || d.Size() != n {
			t.Errorf("New(%d): %v, %d elements", n, e, d.Size())
		}
	}
}

func TestNewRefuses(t *testing.T) {
	refused := func(n int) {
		if d, e := domain.New(n); d != nil || e != api.ErrSize {
			t.Errorf("New(%d): %v, %v", n, d, e)
		}
	}
	for n := -70; n < 1<<17; n++ {
		if n < 1 || n&(n-1) != 0 {
			refused(n)
		}
	}
	for n := 1 << 17; n > 0; n *= 2 {
		refused(n)
		refused(-n)
		refused(n + 1)
		refused(n - 1)
	}
	for _, n := range []int{math.MinInt, math.MinInt + 1, math.MinInt + 2, -65536, -8, math.MaxInt, math.MaxInt - 1, 1<<32 + 8, 1<<62 + 1<<3} {
		refused(n)
	}
}

func TestAt(t *testing.T) {
	for _, n := range append(sizes(), 256, 1024) {
		d := of(t, n)
		seen := map[fr.El]bool{}
		for i, x := range elements(t, n) {
			wantScalar(t, strconv.Itoa(n)+": At("+strconv.Itoa(i)+")", d.At(i), x)
			seen[d.At(i)] = true
		}
		if len(seen) != n {
			t.Errorf("of %d, %d are not alike", n, len(seen))
		}
	}
}

// Any number is one by n.
func TestAtByN(t *testing.T) {
	for _, n := range append(sizes(), 1024) {
		d, l := of(t, n), elements(t, n)
		for i := -3 * n; i < 4*n; i++ {
			wantScalar(t, strconv.Itoa(n)+": At("+strconv.Itoa(i)+")", d.At(i), l[(i+3*n)%n])
		}
		for _, i := range []int{math.MinInt, math.MinInt + 1, math.MinInt + n - 1, math.MinInt32, -1 << 40, 1 << 40, math.MaxInt32, math.MaxInt - n, math.MaxInt - 1, math.MaxInt} {
			by := new(big.Int).Mod(big.NewInt(int64(i)), big.NewInt(int64(n))).Int64()
			wantScalar(t, strconv.Itoa(n)+": At("+strconv.Itoa(i)+")", d.At(i), l[by])
		}
	}
}

func TestSmallDomains(t *testing.T) {
	one, two, four := of(t, 1), of(t, 2), of(t, 4)
	for i := -5; i < 6; i++ {
		wantScalar(t, "At of 1", one.At(i), fr.Of(1))
		wantScalar(t, "At of 2", two.At(i), fr.Of(int64(1-i&1*2)))
	}
	wantScalar(t, "At of 4", four.At(1).Mul(four.At(1)), fr.Of(-1))
	wantScalar(t, "At of 4", four.At(3), four.At(1).Neg())
	root, _ := fr.Root(4)
	wantScalar(t, "At of 4", four.At(1), root)
	wantScalar(t, "V of 2 at 3", two.V(fr.Of(3)), fr.Of(8))
	wantScalar(t, "U of 2 at 3, 1", two.U(fr.Of(3), fr.Of(1)), fr.Of(4))
	wantAll(t, "Values of 5 + 2 Z", two.Values(list(5, 2)), list(7, 3))
	want(t, "Poly of 7, 3", wantPoly(t, "7, 3", two, list(7, 3)), list(5, 2))
	wantAll(t, "Values of 1 - Z^2", four.Values(list(1, 0, -1)), list(0, 2, 0, 2))
	for _, x := range places(t, 4) {
		wantScalar(t, "V of 1", one.V(x), x.Sub(fr.Of(1)))
		wantScalar(t, "Lagrange of 1", one.Lagrange(7, x), fr.Of(1))
		wantScalar(t, "U of 1", one.U(x, fr.Of(4)), fr.Of(1))
		wantScalar(t, "U of 2", two.U(x, fr.Of(4)), x.Add(fr.Of(4)))
		want(t, "Poly of 1", wantPoly(t, "one value", one, []fr.El{x}), []fr.El{x})
		wantAll(t, "Values of 1", one.Values([]fr.El{x, fr.Of(3), x}), []fr.El{x.Add(x).Add(fr.Of(3))})
	}
}

// The greatest one.
func TestTheGreatestDomain(t *testing.T) {
	d, l := of(t, api.MaxDomain), elements(t, api.MaxDomain)
	for _, i := range []int{0, 1, 2, 3, 255, 32767, 32768, 32769, 65534, 65535} {
		what := strconv.Itoa(i)
		wantScalar(t, "At "+what, d.At(i), l[i])
		wantScalar(t, "At "+what+" less n", d.At(i-api.MaxDomain), l[i])
		wantScalar(t, "At "+what+" and n", d.At(i+api.MaxDomain), l[i])
		if !d.Has(l[i]) || d.Has(l[i].Add(fr.Of(1))) {
			t.Errorf("Has at %d", i)
		}
	}
	wantScalar(t, "At of the least int", d.At(math.MinInt), fr.Of(1))
	wantScalar(t, "At of the greatest int", d.At(math.MaxInt), l[api.MaxDomain-1])
	for _, z := range places(t, api.MaxDomain) {
		inner := z
		for range 16 {
			inner = inner.Mul(inner)
		}
		wantScalar(t, "V at "+big10(z), d.V(z), inner.Sub(fr.Of(1)))
		wantScalar(t, "u of two alike", d.U(z, z), fr.Of(api.MaxDomain).Mul(power(z, api.MaxDomain-1)))
		for _, y := range places(t, api.MaxDomain) {
			wantScalar(t, "u times y - z", d.U(y, z).Mul(y.Sub(z)), d.V(y).Sub(d.V(z)))
		}
		for _, i := range []int{0, 1, 32768, 65535, -1, 65536} {
			x := l[(i+api.MaxDomain)%api.MaxDomain]
			wantScalar(t, "Lagrange times n (z - x)", d.Lagrange(i, z).Mul(z.Sub(x)).Mul(fr.Of(api.MaxDomain)), x.Mul(d.V(z)))
			wantScalar(t, "Lagrange at its own", d.Lagrange(i, x), fr.Of(1))
			wantScalar(t, "Lagrange at another", d.Lagrange(i, x.Neg()), fr.El{})
		}
	}
}

func TestTheGreatestPolynomials(t *testing.T) {
	d, l := of(t, api.MaxDomain), elements(t, api.MaxDomain)
	s := numbers{state: 8}
	for _, n := range []int{1, 65535, 65536, 65537, 150000} {
		p := s.scalars(n)
		values := d.Values(p)
		if len(values) != api.MaxDomain {
			t.Errorf("Values: %d of them", len(values))
		}
		for _, i := range []int{0, 1, 2, 4097, 32767, 32768, 49152, 65535} {
			wantScalar(t, "Values at "+strconv.Itoa(i), values[i], worth(p, l[i]))
		}
		less := rest(p, api.MaxDomain)
		want(t, "there and back", wantPoly(t, "there and back", d, values), less)
		quotient, left := d.DivV(p)
		want(t, "the quotient", quotient, fold(p, api.MaxDomain))
		want(t, "the rest", left, less)
		minus := poly.Sub(nil, p)
		want(t, "the product", d.MulV(p), poly.Add(append(zeros(api.MaxDomain), p...), minus))
	}
}

// fold is the quotient by Z^n - 1: at each place what stands there and at all
// places by n, 2 n, .. on, of what is there from n on.
func fold(p []fr.El, n int) []fr.El {
	l := slices.Clone(p[min(n, len(p)):])
	for i := len(l) - n - 1; i >= 0; i-- {
		l[i] = l[i].Add(l[i+n])
	}
	return l
}

// P14.2

func TestHas(t *testing.T) {
	for _, n := range append(sizes(), 512) {
		d := of(t, n)
		for i, x := range elements(t, n) {
			if !d.Has(x) {
				t.Errorf("%d: Has of the %d-th is false", n, i)
			}
		}
		for i, x := range elements(t, 2*n) {
			if d.Has(x) != (i%2 == 0) {
				t.Errorf("%d: Has of the %d-th of twice as many is %v", n, i, d.Has(x))
			}
		}
		for _, z := range places(t, n) {
			if is := slices.Contains(elements(t, n), z); d.Has(z) != is {
				t.Errorf("%d: Has of %s is %v", n, big10(z), !is)
			}
		}
		if d.Has(fr.El{}) || !d.Has(fr.Of(1)) || d.Has(fr.Of(2)) || d.Has(fr.Of(-1)) != (n > 1) {
			t.Errorf("%d: Has of 0, 1, 2, -1", n)
		}
	}
}

func TestV(t *testing.T) {
	for _, n := range append(sizes(), 512) {
		d := of(t, n)
		for _, z := range places(t, n) {
			wanted := fr.Of(1)
			for range n {
				wanted = wanted.Mul(z)
			}
			wanted = wanted.Sub(fr.Of(1))
			wantScalar(t, strconv.Itoa(n)+": V at "+big10(z), d.V(z), wanted)
			if d.Has(z) != wanted.IsZero() {
				t.Errorf("%d: Has at %s", n, big10(z))
			}
		}
		for _, x := range elements(t, n) {
			wantScalar(t, "V at an element", d.V(x), fr.El{})
		}
		wantScalar(t, "V at 0", d.V(fr.El{}), fr.Of(-1))
		wantScalar(t, "V at 1", d.V(fr.Of(1)), fr.El{})
	}
}

func TestU(t *testing.T) {
	for _, n := range append(sizes(), 512) {
		d := of(t, n)
		for _, y := range places(t, n) {
			for _, z := range places(t, n) {
				what := strconv.Itoa(n) + ": U of " + big10(y) + " and " + big10(z)
				wanted := fr.Of(int64(n))
				for range n - 1 {
					wanted = wanted.Mul(y)
				}
				if y != z {
					wanted = power(y, n).Sub(power(z, n)).Mul(inverse(t, y.Sub(z)))
				}
				wantScalar(t, what, d.U(y, z), wanted)
			}
		}
	}
}

// Of elements that are not alike it is 0, and of 0 twice too, but for n 1.
func TestUAtItsEdges(t *testing.T) {
	for _, n := range sizes() {
		d, l := of(t, n), elements(t, n)
		for i, x := range l {
			for j, y := range l {
				wanted := fr.El{}
				if i == j {
					wanted = fr.Of(int64(n)).Mul(inverse(t, x))
				}
				wantScalar(t, strconv.Itoa(n)+": U of elements", d.U(x, y), wanted)
			}
			wantScalar(t, strconv.Itoa(n)+": U of an element and 0", d.U(x, fr.El{}), inverse(t, x))
			wantScalar(t, strconv.Itoa(n)+": U of 0 and an element", d.U(fr.El{}, x), inverse(t, x))
		}
		zero := fr.El{}
		if n == 1 {
			zero = fr.Of(1)
		}
		wantScalar(t, strconv.Itoa(n)+": U of 0 twice", d.U(fr.El{}, fr.El{}), zero)
		wantScalar(t, strconv.Itoa(n)+": U of 1 twice", d.U(fr.Of(1), fr.Of(1)), fr.Of(int64(n)))
	}
	wantScalar(t, "U of 8, 3 and 3", of(t, 8).U(fr.Of(3), fr.Of(3)), fr.Of(8*2187))
	wantScalar(t, "U of 8, 2 and -1", of(t, 8).U(fr.Of(2), fr.Of(-1)), fr.Of(85))
}

func TestLagrange(t *testing.T) {
	for _, n := range sizes() {
		d, l := of(t, n), elements(t, n)
		for i := range l {
			one := zeros(n)
			one[i] = fr.Of(1)
			wanted, e := poly.Points(l, one)
			if e != api.OK {
				t.Fatal(e)
			}
			for _, z := range places(t, n) {
				wantScalar(t, strconv.Itoa(n)+": Lagrange of "+strconv.Itoa(i)+" at "+big10(z), d.Lagrange(i, z), worth(wanted, z))
			}
			for j, x := range l {
				wantScalar(t, strconv.Itoa(n)+": Lagrange of "+strconv.Itoa(i)+" at the element "+strconv.Itoa(j), d.Lagrange(i, x), one[j])
			}
		}
	}
}

func TestLagrangeByN(t *testing.T) {
	for _, n := range append(sizes(), 1024) {
		d := of(t, n)
		for _, z := range places(t, n) {
			for _, i := range []int{math.MinInt, math.MinInt + 1, math.MinInt + 5, -n - 1, -n, -n + 1, -2, -1, n, n + 1, 7*n - 1, 1 << 40, math.MaxInt - 2, math.MaxInt} {
				by := new(big.Int).Mod(big.NewInt(int64(i)), big.NewInt(int64(n))).Int64()
				wantScalar(t, strconv.Itoa(n)+": Lagrange of "+strconv.Itoa(i), d.Lagrange(i, z), d.Lagrange(int(by), z))
			}
			if !d.Has(z) {
				x := d.At(-1)
				wanted := x.Mul(d.V(z)).Mul(inverse(t, z.Sub(x).Mul(fr.Of(int64(n)))))
				wantScalar(t, strconv.Itoa(n)+": Lagrange of -1 at "+big10(z), d.Lagrange(-1, z), wanted)
			}
		}
	}
}

// P14.3

func TestValues(t *testing.T) {
	for _, n := range append(sizes(), 256) {
		d, l := of(t, n), elements(t, n)
		for _, p := range some(n) {
			wanted := zeros(n)
			for i, x := range l {
				wanted[i] = worth(p, x)
			}
			wantAll(t, strconv.Itoa(n)+": Values of "+text(p), d.Values(p), wanted)
		}
		for i := range min(2*n, 40) { // of each power of Z: the powers of an element
			wanted := zeros(n)
			for j := range wanted {
				wanted[j] = l[i*j%n]
			}
			wantAll(t, "Values of a power of Z", d.Values(append(zeros(i), fr.Of(1))), wanted)
		}
		for _, none := range [][]fr.El{nil, {}, zeros(1), zeros(n), zeros(2*n + 1), vanishing(n)} {
			wantAll(t, "Values of 0", d.Values(none), zeros(n))
		}
	}
}

func TestPoly(t *testing.T) {
	for _, n := range append(sizes(), 256) {
		d, xs := of(t, n), elements(t, n)
		for _, l := range values(n) {
			p := wantPoly(t, text(l), d, l)
			for i, x := range xs {
				wantScalar(t, strconv.Itoa(n)+": Poly of "+text(l)+" at "+strconv.Itoa(i), worth(p, x), l[i])
			}
			if n < 64 {
				wanted, _ := poly.Points(xs, l)
				want(t, strconv.Itoa(n)+": Poly of "+text(l), p, wanted)
			}
		}
		want(t, "Poly of zeros", wantPoly(t, "zeros", d, zeros(n)), nil)
		want(t, "Poly of 1 alone", wantPoly(t, "1 alone", d, slices.Repeat(list(1), n)), list(1))
	}
}

// Values whose polynomial has fewer scalars than there are: of each count.
func TestPolyOfALesserDegree(t *testing.T) {
	s := numbers{state: 9}
	for _, n := range sizes() {
		d, xs := of(t, n), elements(t, n)
		for m := range n + 1 {
			p := s.scalars(m)
			l := zeros(n)
			for i, x := range xs {
				l[i] = worth(p, x)
			}
			want(t, strconv.Itoa(m)+" scalars, "+strconv.Itoa(n)+" values", wantPoly(t, "a lesser degree", d, l), p)
		}
		if n > 1 {
			want(t, "the elements themselves", wantPoly(t, "Z", d, xs), list(0, 1))
		}
	}
}

func TestPolyRefuses(t *testing.T) {
	s := numbers{state: 10}
	for _, n := range append(sizes(), 1024) {
		d := of(t, n)
		for _, m := range []int{0, 1, n / 2, n - 1, n, n + 1, n + 2, 2 * n, 2*n - 1, 3 * n} {
			for _, l := range [][]fr.El{s.scalars(m), zeros(m)} {
				p, e := d.Poly(l)
				if m == n && e != api.OK || m != n && (e != api.ErrArg || len(p) != 0) {
					t.Errorf("Poly of %d of %d: %s, %v", m, n, text(p), e)
				}
			}
		}
		if p, e := d.Poly(nil); e != api.ErrArg || len(p) != 0 {
			t.Errorf("Poly of none: %s, %v", text(p), e)
		}
		if p, e := d.Poly(s.scalars(2 * n)[:0]); e != api.ErrArg || len(p) != 0 {
			t.Errorf("Poly of none with room behind: %s, %v", text(p), e)
		}
	}
}

// P14.4

func TestMulV(t *testing.T) {
	for _, n := range append(sizes(), 256) {
		d := of(t, n)
		for _, p := range some(n) {
			wanted := zeros(len(p) + n)
			for i, x := range p {
				wanted[i] = wanted[i].Sub(x)
				wanted[i+n] = wanted[i+n].Add(x)
			}
			want(t, strconv.Itoa(n)+": MulV of "+text(p), d.MulV(p), wanted)
			want(t, strconv.Itoa(n)+": Mul, in place of MulV, of "+text(p), d.MulV(p), poly.Mul(p, vanishing(n)))
		}
		want(t, "MulV of 1", d.MulV(list(1)), vanishing(n))
		want(t, "MulV of 0", d.MulV(nil), nil)
		want(t, "MulV of zeros", d.MulV(zeros(2*n+3)), nil)
	}
}

func TestDivV(t *testing.T) {
	for _, n := range append(sizes(), 256) {
		d := of(t, n)
		for _, p := range some(n) {
			what := strconv.Itoa(n) + ": DivV of " + text(p)
			quotient, left := d.DivV(p)
			wanted, wantedRest, e := poly.DivMod(p, vanishing(n))
			if e != api.OK {
				t.Fatal(e)
			}
			want(t, what+", the quotient", quotient, wanted)
			want(t, what+", the rest", left, wantedRest)
			if len(left) > n {
				t.Errorf("%s: the rest has %d scalars", what, len(left))
			}
			want(t, what+", together", poly.Add(poly.Mul(quotient, vanishing(n)), left), p)
		}
	}
}

func TestDivVAtItsEdges(t *testing.T) {
	s := numbers{state: 11}
	for _, n := range sizes() {
		d := of(t, n)
		wantBoth := func(what string, p, quotient, left []fr.El) {
			t.Helper()
			gotQ, gotR := d.DivV(p)
			want(t, strconv.Itoa(n)+": "+what+", the quotient", gotQ, quotient)
			want(t, strconv.Itoa(n)+": "+what+", the rest", gotR, left)
		}
		wantBoth("none", nil, nil, nil)
		wantBoth("zeros", zeros(3*n+1), nil, nil)
		wantBoth("Z^n - 1", vanishing(n), list(1), nil)
		wantBoth("Z^n - 1 and zeros", longer(vanishing(n), 2*n), list(1), nil)
		wantBoth("Z^n", append(zeros(n), fr.Of(1)), list(1), list(1))
		wantBoth("Z^(2 n) - 1", vanishing(2*n), append(append(list(1), zeros(n-1)...), fr.Of(1)), nil)
		for m := range n + 1 {
			less := s.scalars(m)
			wantBoth("fewer scalars", less, nil, less)
			wantBoth("fewer scalars and zeros", longer(less, 3*n), nil, less)
			for _, q := range some(n) {
				wantBoth("a product", d.MulV(q), q, nil)
				wantBoth("a product and more", poly.Add(d.MulV(q), less), q, less)
			}
		}
	}
}
