package decide_test

import (
	"math/big"
	"slices"
	"testing"

	"marlinspike/api"
	"marlinspike/decide"
	"marlinspike/fr"
)

// P26.2, the second equation.

// Of all values 0 the denominators are a b: it holds if T is 0, or a, or b, and else not.
func TestSecondOfNothing(t *testing.T) {
	s := numbers{state: 40}
	q, z := second(), decide.Sizes{N: 4, X: 2, M: 2}
	for _, a := range append(elementsOf(4), whole(0), whole(7), s.great()) {
		for _, b := range []*big.Int{a, whole(0), whole(1), elementsOf(4)[1], s.great()} {
			for _, g := range []*big.Int{a, b, whole(0), whole(1), whole(-1), s.great()} {
				x := tale{z: z, a: a, b: b, g: g, e: s.triple(), l: [count]*big.Int(zeros(count))}
				q.want(t, "all 0", x, true)
				x.l[atT] = s.big()
				q.want(t, "all 0 but T", x, a.Sign() == 0 || b.Sign() == 0)
			}
		}
	}
	if is, e := decide.Second(z, fr.El{}, [3]fr.El{}, fr.El{}, fr.El{}, decide.Values{}); !is || e != api.OK {
		t.Errorf("zero values: %v, %v", is, e)
	}
}

// A small one, worked out by hand: N 2, so v(a) v(b) at a = 2, b = 3 is 3 times 8. Of the
// Rows 1, 4, 5 and Cols 1, 5, 2 the denominators are 1 times 2, -2 times -2, -3 times 1.
// By e = (1, 2, 3) and the Vals 1, 2, 3 the numbers beside them are 1, 4, 9: times the
// others' -12, -24, 72, together 36, times 24 864. M 2, g = 3, G2 = 7, T = 10: 21 and 5 are
// 26, times all denominators, -24, -624. 864 less that is 1488, 8 times 186.
func TestSecondByHand(t *testing.T) {
	of := func(x, y, z int64) [3]fr.El { return [3]fr.El{fr.Of(x), fr.Of(y), fr.Of(z)} }
	v := decide.Values{T: fr.Of(10), Row: of(1, 4, 5), Col: of(1, 5, 2), Val: of(1, 2, 3), G2: fr.Of(7)}
	for _, h := range []int64{186, 185, 187, -186, 0} {
		v.H2 = fr.Of(h)
		for _, x := range []int{1, 2, 4} {
			is, fault := decide.Second(decide.Sizes{N: 2, X: x, M: 2}, fr.Of(2), of(1, 2, 3), fr.Of(3), fr.Of(3), v)
			if is != (h == 186) || fault != api.OK {
				t.Errorf("%d, X %d: %v, %v", h, x, is, fault)
			}
		}
	}
}

// Values of any scalars, by which it does not hold, and by which it holds, because one of
// them is put right.
func TestSecond(t *testing.T) {
	s := numbers{state: 41}
	q := second()
	for _, z := range manySizes() {
		for range 3 {
			x := s.any(z, 0)
			q.want(t, "any", x, false)
			q.wantMended(t, "any", x)
			for _, i := range []int{atH2, atG2, atT, atVal, atVal + 1, atVal + 2} {
				x := q.sure(t, "any", x, i)
				q.want(t, what("put right by ", named(i)), x, true)
				q.wantAll(t, what("put right by ", named(i)), x)
			}
		}
	}
}

// Each value alone another one, of sizes and scalars that make each play a part.
func TestSecondEachPlace(t *testing.T) {
	s := numbers{state: 42}
	q := second()
	for _, z := range fewSizes() {
		x := q.sure(t, "each place", s.any(z, z.X), atH2)
		for i := range count {
			for _, k := range []*big.Int{whole(0), plus(x.l[i], whole(1)), less(whole(0), x.l[i]), s.great()} {
				q.want(t, what("another ", named(i)), x.but(i, k), !slices.Contains(q.parts, i))
			}
		}
	}
}

// Two of them exchanged: no two stand at one place. But all of one matrix, with its e, may
// be exchanged with all of another.
func TestSecondExchanged(t *testing.T) {
	s := numbers{state: 43}
	q := second()
	x := q.sure(t, "exchanged", s.any(decide.Sizes{N: 8, X: 4, M: 4}, 3), atG2)
	for _, i := range q.parts {
		for _, j := range q.parts {
			y := x.but(i, x.l[j]).but(j, x.l[i])
			q.want(t, what(named(i), " and ", named(j)), y, i == j)
		}
	}
	for i := range 3 {
		for j := range 3 {
			y := x
			y.e[i], y.e[j] = x.e[j], x.e[i]
			q.want(t, what("e ", i, " and ", j), y, i == j)
			for _, at := range []int{atRow, atCol, atVal} {
				y = y.but(at+i, x.l[at+j]).but(at+j, x.l[at+i])
			}
			q.want(t, what("all of ", i, " and ", j), y, true)
		}
	}
	for i, l := range [][3]*big.Int{{x.b, x.a, x.g}, {x.a, x.g, x.b}, {x.g, x.b, x.a}, {x.b, x.g, x.a}} {
		y := x
		y.a, y.b, y.g = l[0], l[1], l[2]
		q.want(t, what("a, b, g ", i), y, false)
	}
}

// At a, b and g that are edges, also the same ones.
func TestSecondAtEdges(t *testing.T) {
	s := numbers{state: 44}
	q := second()
	for _, z := range fewSizes() {
		for _, a := range s.places(z) {
			for _, b := range append(s.places(z)[1:], a) {
				for _, g := range append(s.places(z)[:3], a, b, elementsOf(min(z.M, 64))[z.M/2%64]) {
					x := s.any(z, 0)
					x.a, x.b, x.g = a, b, g
					q.want(t, what("at ", a, ", ", b, ", ", g), x, q.holds(x))
					if x, is := q.mended(x, []int{atH2, atG2, atT}[s.below(3)]); is {
						q.wantAll(t, what("at ", a, ", ", b, ", ", g, ", mended"), x)
					}
				}
			}
		}
	}
}

// By e of 0, or of which one is not, and of values that are 0.
func TestSecondOfZeros(t *testing.T) {
	s := numbers{state: 45}
	q := second()
	for _, z := range fewSizes() {
		for _, e := range s.manyScalars() {
			x := s.any(z, 0)
			x.e = e
			q.wantMended(t, what("by ", e), x)
		}
		for range 100 {
			x, which := s.any(z, 0), s.word()
			for _, i := range q.parts {
				if which>>i&1 == 1 {
					x.l[i] = whole(0)
				}
			}
			q.want(t, "zeros", x, q.holds(x))
			if y, is := q.mended(x, atH2); is {
				q.want(t, "zeros, mended", y, true)
			}
		}
	}
}

// At each element of K H2 plays no part, at 0 G2 does not.
func TestSecondWhereHOrGPlaysNone(t *testing.T) {
	s := numbers{state: 46}
	q := second()
	for m := 1; m <= 16; m *= 2 {
		z := decide.Sizes{N: 8, X: 2, M: m}
		for i, g := range elementsOf(m) {
			x := s.any(z, 0)
			x.g = g
			x = q.sure(t, what("at ", i), x, atG2)
			for _, place := range q.parts {
				q.want(t, what("at ", i, ", another ", named(place)), x.but(place, s.great()), place == atH2)
			}
		}
		x := s.any(z, 0)
		x.g = whole(0)
		x = q.sure(t, "at 0", x, atH2)
		for _, place := range q.parts {
			q.want(t, what("at 0, another ", named(place)), x.but(place, s.great()), place == atG2)
		}
		for _, g := range []*big.Int{less(whole(0), s.great()), elementsOf(2 * m)[1]} { // no element
			x.g = g
			x = q.sure(t, "off K", x, atH2)
			q.want(t, "off K, another H2", x.but(atH2, plus(x.l[atH2], whole(1))), false)
		}
	}
}

// An a that is a Row, or a b that is a Col, or both, of each choice of matrices: of one it
// leaves only what stands beside its own denominator, of two or more nothing.
func TestSecondWhereDenominatorsAreZero(t *testing.T) {
	s := numbers{state: 47}
	q := second()
	for _, z := range fewSizes() {
		for which := 1; which < 64; which++ {
			x := s.any(z, 0)
			var none []int // the matrices whose denominators are 0
			for i := range 3 {
				if which>>i&1 == 1 {
					x.l[atRow+i] = x.a
				}
				if which>>i&8 == 8 {
					x.l[atCol+i] = x.b
				}
				if (which|which>>3)>>i&1 == 1 {
					none = append(none, i)
				}
			}
			q.wantMended(t, what("denominators ", which), x)
			right := whole(0) // H2 vK(g)
			if i := none[0]; len(none) == 1 {
				right = times(v(z.N, x.a), v(z.N, x.b), x.e[i], x.l[atVal+i], x.denominator((i+1)%3), x.denominator((i+2)%3))
			}
			x.l[atH2] = per(right, v(z.M, x.g))
			q.want(t, what("denominators ", which), x, true)
			q.want(t, what("denominators ", which, ", another H2"), x.but(atH2, plus(x.l[atH2], whole(1))), false)
			for _, i := range []int{atT, atG2} {
				q.want(t, what("denominators ", which, ", another ", named(i)), x.but(i, s.great()), true)
			}
			for i := range 3 {
				plays := len(none) == 1 && none[0] == i
				q.want(t, what("denominators ", which, ", another Val ", i), x.but(atVal+i, s.great()), !plays)
			}
		}
	}
}

// What a value is multiplied by, told by the words once more: where that is 0 the value plays
// no part, and else it does.
func TestSecondWhatIsMultipliedByZero(t *testing.T) {
	s := numbers{state: 48}
	q, z := second(), decide.Sizes{N: 8, X: 4, M: 4}
	h := elementsOf(8)
	vals := []int{atVal, atVal + 1, atVal + 2}
	for i, x := range []struct {
		alter func(x *tale)
		mend  int
		none  []int // that play no part
	}{
		{func(x *tale) {}, atH2, nil},
		{func(x *tale) { x.e[0] = whole(0) }, atH2, vals[:1]},
		{func(x *tale) { x.e[1] = whole(0) }, atH2, vals[1:2]},
		{func(x *tale) { x.e[2] = whole(0) }, atH2, vals[2:]},
		{func(x *tale) { x.e = [3]*big.Int(zeros(3)) }, atH2, vals},
		{func(x *tale) { x.a = h[1] }, atH2, vals},
		{func(x *tale) { x.b = h[2] }, atH2, vals},
		{func(x *tale) { x.a, x.b = h[3], h[3] }, atH2, vals},
		{func(x *tale) { x.a = x.b }, atH2, nil},
		{func(x *tale) { x.g = elementsOf(4)[3] }, atG2, []int{atH2}},
		{func(x *tale) { x.g = h[3] }, atG2, nil},
		{func(x *tale) { x.g = whole(0) }, atH2, []int{atG2}},
		{func(x *tale) { x.l[atRow] = x.a }, atH2, []int{atT, atG2, atCol, vals[1], vals[2]}},
		{func(x *tale) { x.l[atCol+1] = x.b }, atH2, []int{atT, atG2, atRow + 1, vals[0], vals[2]}},
		{func(x *tale) { x.l[atRow+2], x.l[atCol+2] = x.a, x.b }, atH2, []int{atT, atG2, atRow + 2, atCol + 2, vals[0], vals[1]}},
		{func(x *tale) { x.l[atRow], x.l[atRow+1] = x.a, x.a }, atH2, []int{atT, atG2, atCol, atCol + 1, atRow + 2, atCol + 2, vals[0], vals[1], vals[2]}},
		{func(x *tale) { x.l[atT], x.l[atG2], x.e[1], x.e[2] = whole(0), whole(0), whole(0), whole(0) }, atH2, []int{atRow, atCol, vals[1], vals[2]}},
	} {
		y := s.any(z, 0)
		x.alter(&y)
		y = q.sure(t, what(i), y, x.mend)
		for _, place := range q.parts {
			q.want(t, what(i, ", another ", named(place)), y.but(place, s.great()), slices.Contains(x.none, place))
		}
	}
}

// N and M play a part each, and X does not.
func TestSecondBySizes(t *testing.T) {
	s := numbers{state: 49}
	q := second()
	x := q.sure(t, "sizes", s.any(decide.Sizes{N: 16, X: 4, M: 8}, 0), atH2)
	for _, n := range powersOf2() {
		for i, wanted := range []bool{n == 16, true, n == 8} {
			y := x
			y.z = sized(x.z, 1<<i, n)
			q.want(t, "one other size", y, wanted)
		}
	}
}

// Of a T alone M shows by T / M, also where v vanishes.
func TestSecondByM(t *testing.T) {
	s := numbers{state: 50}
	q := second()
	for _, m := range powersOf2() {
		x := s.any(decide.Sizes{N: 4, X: 2, M: m}, 0)
		x.g, x.a = whole(1), whole(1)                              // so H2 and all Val play no part
		x.l[atG2] = per(less(whole(0), x.l[atT]), whole(int64(m))) // and G2 is -T / M
		q.want(t, "T / M", x, true)
		for other := 1; other <= api.MaxDomain; other *= 2 {
			x.z.M = other
			q.want(t, what("T / ", m), x, other == m)
		}
	}
}

// Each size that there is may be each of the three.
func TestSecondOfEachSize(t *testing.T) {
	s := numbers{state: 51}
	q := second()
	for _, n := range powersOf2() {
		for i := range 3 {
			z := sized(decide.Sizes{N: 8, X: 4, M: 2}, 1<<i, n)
			x := q.sure(t, "each size", s.any(z, 1), atH2)
			q.want(t, "each size", x, true)
			q.want(t, "each size, another H2", x.but(atH2, s.great()), false)
		}
	}
}
