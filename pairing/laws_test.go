package pairing_test

import (
	"fmt"
	"math/big"
	"testing"

	"marlinspike/api"
	"marlinspike/fq12"
	"marlinspike/fr"
	"marlinspike/group"
	"marlinspike/pairing"
)

// P12.3

// raised is the power of a pairing by a scalar.
func raised(f fq12.El, k fr.El) fq12.El {
	e := new(big.Int)
	s := k.Scalar()
	return power(f, e.SetBytes(s[:]))
}

// wantSame fails if two numbers of twelve parts are not the same.
func wantSame(t *testing.T, what string, f, g fq12.El) {
	t.Helper()
	if f != g {
		t.Errorf("%s: %s, not %s", what, digits(f), digits(g))
	}
}

// of is the pairing of the generators' multiples.
func of(a, b fr.El) fq12.El {
	return pairing.Pair(group.Mul1(gen1, a), group.Mul2(gen2, b))
}

// The generators' has the order r, which is a prime number.
func TestTheGenerators(t *testing.T) {
	e := pairing.Pair(gen1, gen2)
	if e == one() || e.IsZero() || power(e, r()) != one() || !r().ProbablyPrime(20) {
		t.Errorf("%s", digits(e))
	}
	for _, k := range scalars() {
		if raised(e, k) == one() {
			t.Errorf("to the %v it is 1", k.Nat())
		}
	}
	p := one()
	for n := range 300 {
		if p == one() != (n == 0) {
			t.Errorf("to the %d it is %s", n, digits(p))
		}
		p = p.Mul(e)
	}
}

func TestItGoesByScalars(t *testing.T) {
	e, zero, l := of(fr.Of(1), fr.Of(1)), fr.El{}, scalars()
	for i, a := range append(l, zero) {
		b := l[(5*i+8)%len(l)]
		what := fmt.Sprint(a.Nat(), " and ", b.Nat())
		f := raised(e, a.Mul(b))
		wantSame(t, what, of(a, b), f)
		wantSame(t, what+", turned", of(b, a), f)
		wantSame(t, what+", the first alone", of(a.Mul(b), fr.Of(1)), f)
		wantSame(t, what+", the second alone", of(fr.Of(1), a.Mul(b)), f)
		wantSame(t, what+", step by step", raised(raised(e, a), b), f)
	}
	wantSame(t, "0 and 0", of(zero, zero), one())
	for _, a := range l {
		wantSame(t, fmt.Sprint("0 and ", a.Nat()), of(zero, a), one())
		inverse, _ := a.Inv()
		wantSame(t, fmt.Sprint(a.Nat(), " and its inverse"), of(a, inverse), e)
	}
}

// By points that are multiples of others than the generators.
func TestItGoesByScalarsOfAnyPoints(t *testing.T) {
	s := numbers{state: 4}
	for range 4 {
		p, q := group.Mul1(gen1, s.scalar()), group.Mul2(gen2, s.scalar())
		a, b := s.scalar(), s.scalar()
		wantSame(t, "both", pairing.Pair(group.Mul1(p, a), group.Mul2(q, b)), raised(pairing.Pair(p, q), a.Mul(b)))
		wantSame(t, "from one to the other", pairing.Pair(group.Mul1(p, a), q), pairing.Pair(p, group.Mul2(q, a)))
	}
}

func TestItGoesOutOverSums(t *testing.T) {
	c1, c2, s := group.Curve1(), group.Curve2(), numbers{state: 5}
	ps, qs := []group.G1{gen1, {}}, []group.G2{gen2, {}}
	for range 3 {
		ps, qs = append(ps, group.Mul1(gen1, s.scalar())), append(qs, group.Mul2(gen2, s.scalar()))
	}
	for i, p := range ps {
		q := qs[(i+2)%len(qs)]
		f := pairing.Pair(p, q)
		for j := range ps {
			wantSame(t, fmt.Sprint("the first place, ", i, j), pairing.Pair(c1.Add(p, ps[j]), q), f.Mul(pairing.Pair(ps[j], q)))
			wantSame(t, fmt.Sprint("the second place, ", i, j), pairing.Pair(p, c2.Add(q, qs[j])), f.Mul(pairing.Pair(p, qs[j])))
		}
		inverse, e := f.Inv()
		if e != api.OK {
			t.Errorf("%d: it is 0", i)
		}
		wantSame(t, fmt.Sprint("the negative in the first place, ", i), pairing.Pair(c1.Neg(p), q), inverse)
		wantSame(t, fmt.Sprint("the negative in the second place, ", i), pairing.Pair(p, c2.Neg(q)), inverse)
	}
}

// A last power is a root of 1, r times; it goes out over products, inverses and
// powers, and is 1 of what is of a field that is less.
func TestLastPowers(t *testing.T) {
	s := numbers{state: 6}
	l := s.full(3)
	for i, f := range l {
		last, g := pairing.Last(f), l[(i+1)%len(l)]
		if last == one() {
			t.Errorf("%d: it is 1", i)
		}
		wantSame(t, "r times", power(last, r()), one())
		wantSame(t, "of an r-th power", pairing.Last(power(f, r())), one())
		wantSame(t, "of a product", pairing.Last(f.Mul(g)), last.Mul(pairing.Last(g)))
		wantSame(t, "of a square", pairing.Last(f.Mul(f)), last.Mul(last))
		wantSame(t, "of the power by q", pairing.Last(f.Frob()), last.Frob())
		inverse, _ := f.Inv()
		wantSame(t, "of an inverse", pairing.Last(inverse).Mul(last), one())
		wantSame(t, "of Conj", pairing.Last(f.Conj()).Mul(last), one())
		wantSame(t, "of the negative", pairing.Last(f.Neg()), last)
		wantSame(t, "of the triple alone", pairing.Last(fq12.El{A: f.A}), one())
		wantSame(t, "by what is of a field that is less", pairing.Last(f.Mul(fq12.El{A: g.A})), last)
	}
}

// multiples are those of the generators.
func multiples(as, bs []fr.El) (ps []group.G1, qs []group.G2) {
	for i := range as {
		ps, qs = append(ps, group.Mul1(gen1, as[i])), append(qs, group.Mul2(gen2, bs[i]))
	}
	return ps, qs
}

// wantOne fails if IsOne of the generators' multiples tells anything but whether
// the products of their scalars are 0 together.
func wantOne(t *testing.T, as, bs []fr.El) {
	t.Helper()
	var sum fr.El
	for i := range as {
		sum = sum.Add(as[i].Mul(bs[i]))
	}
	ps, qs := multiples(as, bs)
	if is, e := pairing.IsOne(ps, qs); is != sum.IsZero() || e != api.OK {
		t.Errorf("%d pairs, that are %v together: %v, %v", len(as), sum.Nat(), is, e)
	}
}

// Of as many pairs as there are, the last one is such that all products are 0
// together; then one scalar of one pair is another one.
func TestOneIsNought(t *testing.T) {
	s := numbers{state: 7}
	for size := range 5 {
		var as, bs []fr.El
		var sum fr.El
		for i := range size {
			as, bs = append(as, s.scalar()), append(bs, s.scalar())
			if i == 2 {
				as[i] = fr.El{}
			}
			sum = sum.Add(as[i].Mul(bs[i]))
		}
		b := s.scalar()
		inverse, e := b.Inv()
		if e != api.OK {
			t.Fatal(e)
		}
		as, bs = append(as, sum.Neg().Mul(inverse)), append(bs, b)
		wantOne(t, as, bs)
		as[size] = as[size].Add(fr.Of(1))
		wantOne(t, as, bs)
		as[size] = as[size].Sub(fr.Of(1)).Neg()
		wantOne(t, as, bs)
		as[size] = as[size].Neg()
		bs[0] = bs[0].Add(s.scalar())
		wantOne(t, as, bs)
	}
}

func TestOneIsNoughtOfSmallScalars(t *testing.T) {
	for a := range int64(3) {
		for b := range int64(3) {
			for c := range int64(3) {
				d := (a*b + c) % 5
				wantOne(t, []fr.El{fr.Of(a - 1), fr.Of(c - 1)}, []fr.El{fr.Of(b - 1), fr.Of(d - 2)})
			}
		}
	}
}
