package miller_test

import (
	"fmt"
	"math/big"
	"testing"

	"marlinspike/api"
	"marlinspike/curve"
	"marlinspike/fq12"
	"marlinspike/fr"
	"marlinspike/group"
	"marlinspike/miller"
	"marlinspike/nat"
)

// P11.3

// wide is G1's curve over numbers of twelve parts.
func wide() *curve.Curve[fq12.El] { return curve.New(fq12.Of(1), fq12.Of(1)) }

// places are points of G2's curve: of the group, outside of it, and the far one.
func places(t *testing.T) []group.G2 {
	t.Helper()
	h := group.Gen2()
	l := []group.G2{{}, h, group.Mul2(h, fr.Of(2)), group.Mul2(h, fr.Of(-1)), group.Mul2(h, fr.Of(-77))}
	return append(l, outside2(t)...)
}

// point is what a point of G2's curve goes over into, as that curve's Point.
func point(t *testing.T, q group.G2) curve.Point[fq12.El] {
	t.Helper()
	s := told(q)
	if !s.is {
		return curve.Point[fq12.El]{}
	}
	p, e := wide().Of(s.x, s.y)
	if e != api.OK {
		t.Errorf("(%s, %s): %v", digits(s.x), digits(s.y), e)
	}
	return p
}

func TestWhatGoesOverIsOfTheFirstCurve(t *testing.T) {
	for i, q := range places(t) {
		s := told(q)
		if !s.on() || s.is && !wide().On(s.x, s.y) {
			t.Errorf("the point %d goes over into (%s, %s)", i, digits(s.x), digits(s.y))
		}
	}
}

// sumsGoOver asks about two points.
func sumsGoOver(t *testing.T, what string, p, q group.G2) {
	t.Helper()
	sum := group.Curve2().Add(p, q)
	if told(sum) != told(p).add(told(q)) {
		t.Errorf("%s: what they go over into is not together what they together go over into", what)
	}
	if !wide().Same(point(t, sum), wide().Add(point(t, p), point(t, q))) {
		t.Errorf("%s: by the curve, they are not together what they go over into", what)
	}
}

func TestSumsGoOver(t *testing.T) {
	c, l := group.Curve2(), places(t)
	for i, p := range l {
		sumsGoOver(t, fmt.Sprint(i, " twice"), p, p)
		sumsGoOver(t, fmt.Sprint(i, " twice, by two values"), p, c.Mul(p, []uint64{1}))
		sumsGoOver(t, fmt.Sprint(i, " and its negative"), p, c.Neg(p))
		sumsGoOver(t, fmt.Sprint(i, " and the far one"), p, group.G2{})
		sumsGoOver(t, fmt.Sprint("the far one and ", i), group.G2{}, p)
		for j, q := range l {
			sumsGoOver(t, fmt.Sprint(i, " and ", j), p, q)
		}
		if told(c.Neg(p)) != told(p).neg() {
			t.Errorf("%d: its negative goes over into another point", i)
		}
	}
}

func TestMultiplesGoOver(t *testing.T) {
	h, s := group.Gen2(), numbers{state: 3}
	for _, k := range []fr.El{{}, fr.Of(1), fr.Of(6), fr.Of(-1), s.scalar()} {
		if !wide().Same(point(t, group.Mul2(h, k)), wide().Mul(point(t, h), k.Nat())) {
			t.Errorf("%v times the generator goes over into another point", k.Nat())
		}
	}
}

// No step's divisor is 0, of whatever point of G2's curve: neither the numbers
// that first bits of X say nor those beside them have a divisor in common with
// the count of the curve's points, that is the cofactor times r.
func TestNoStepComesToTheFarOne(t *testing.T) {
	x, count := new(big.Int).SetUint64(api.X), new(big.Int)
	for _, n := range []int64{1, -4, 5, 0, -4, 6, -4, -4, 13} {
		count.Mul(count, x).Add(count, big.NewInt(n))
	}
	r := new(big.Int)
	for _, n := range []int64{1, 0, -1, 0, 1} {
		r.Mul(r, x).Add(r, big.NewInt(n))
	}
	if _, rest := count.DivMod(count, big.NewInt(9), new(big.Int)); rest.Sign() != 0 {
		t.Fatal("9 does not go into the cofactor")
	}
	count.Mul(count, r)
	for bits := range uint(63) {
		for _, often := range []*big.Int{new(big.Int).SetUint64(api.X >> bits), new(big.Int).SetUint64(api.X >> bits &^ 1)} {
			for _, beside := range []int64{-1, 0, 1} {
				n := new(big.Int).Add(often, big.NewInt(beside))
				if common := new(big.Int).GCD(nil, nil, n, count); common.Cmp(big.NewInt(1)) != 0 {
					t.Errorf("%s and the count have the divisor %s", n, common)
				}
			}
		}
	}
	times, e := nat.FromBytes(count.Bytes())
	if e != api.OK {
		t.Fatal(e)
	}
	for i, q := range outside2(t) {
		all := group.Curve2().Mul(q, times)
		if told(all).is {
			t.Errorf("the point %d, so often, is not the far one", i)
		}
	}
}

// Miller's function of points of the groups is never 0.
func TestMillerIsNeverZero(t *testing.T) {
	g, h := group.Gen1(), group.Gen2()
	l := append(scalars(), fr.El{})
	for i, a := range l {
		p := group.Mul1(g, a)
		for _, b := range []fr.El{l[i], l[(3*i+1)%len(l)], l[(7*i+5)%len(l)], {}} {
			f := miller.Miller(p, group.Mul2(h, b))
			if _, e := f.Inv(); f.IsZero() || e != api.OK {
				t.Errorf("of %v and %v it is 0", a.Nat(), b.Nat())
			}
			if one := f == fq12.Of(1); one != (a.IsZero() || b.IsZero()) {
				t.Errorf("of %v and %v it is %s", a.Nat(), b.Nat(), digits(f))
			}
		}
	}
}
