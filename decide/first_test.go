package decide_test

import (
	"math/big"
	"slices"
	"testing"

	"marlinspike/api"
	"marlinspike/decide"
	"marlinspike/fr"
)

// P26.2, the first equation.

// Of all values 0 it holds, at any; with a T it does not, unless I is 0 at b.
func TestFirstOfNothing(t *testing.T) {
	s := numbers{state: 20}
	q, z := first(), decide.Sizes{N: 4, X: 2, M: 2}
	for _, b := range append(append(wholes(0, 1, -1, 3, 7), elementsOf(4)...), s.great()) {
		for _, a := range []*big.Int{b, whole(0), whole(1), elementsOf(4)[1], s.great()} {
			for _, in := range [][]*big.Int{nil, wholes(0), wholes(1, 9), wholes(-3, 3), s.list(2)} {
				x := tale{z: z, in: in, a: a, b: b, g: s.great(), e: s.triple(), l: [count]*big.Int(zeros(count))}
				q.want(t, "all 0", x, true)
				x.l[atT] = s.big()
				q.want(t, "all 0 but T", x, x.inputs().Sign() == 0)
			}
		}
	}
	if is, e := decide.First(z, []fr.El{fr.Of(1), fr.Of(9)}, fr.El{}, [3]fr.El{}, fr.El{}, decide.Values{}); !is || e != api.OK {
		t.Errorf("zero values: %v, %v", is, e)
	}
}

// I at 5/4 is 0: there T plays no part.
func TestFirstWhereInputsAreZero(t *testing.T) {
	s := numbers{state: 21}
	x := s.any(decide.Sizes{N: 4, X: 2, M: 2}, 0)
	x.in, x.b = wholes(1, 9), per(whole(5), whole(4))
	x.l[atW] = whole(0)
	x = first().sure(t, "I is 0", x, atS)
	for range 5 {
		x.l[atT] = s.great()
		first().want(t, "I is 0", x, true)
	}
	x.in = wholes(1, 8)
	first().want(t, "I is not 0", x, false)
}

// A small one, worked out by hand: N 2, X 1, and so u(a, b) is a + b, v(b) b^2 - 1, vX(b)
// b - 1, I the input. At a = 2, b = 3 by e = (1, 2, 3), of A = 5, B = 7, S = 11: 11 and 5
// times 5 + 14 + 105 are 631. By W = 13, T = 17 and the input 4 it is 631 - 17 (26 + 4),
// 121; H1 8 and G1 3 times come to that, of G1 = 19, by H1 = 8.
func TestFirstByHand(t *testing.T) {
	v := decide.Values{W: fr.Of(13), A: fr.Of(5), B: fr.Of(7), S: fr.Of(11), T: fr.Of(17), G1: fr.Of(19), H1: fr.Of(8)}
	z, e := decide.Sizes{N: 2, X: 1, M: 1}, [3]fr.El{fr.Of(1), fr.Of(2), fr.Of(3)}
	for _, in := range []int64{4, 3, 5, 0, -4} {
		if is, fault := decide.First(z, []fr.El{fr.Of(in)}, fr.Of(2), e, fr.Of(3), v); is != (in == 4) || fault != api.OK {
			t.Errorf("%d: %v, %v", in, is, fault)
		}
	}
	for _, h := range []int64{7, 9, -8, 0} {
		v.H1 = fr.Of(h)
		if is, fault := decide.First(z, []fr.El{fr.Of(4)}, fr.Of(2), e, fr.Of(3), v); is || fault != api.OK {
			t.Errorf("H1 %d: %v, %v", h, is, fault)
		}
	}
}

// Values of any scalars, by which it does not hold, and by which it holds, because one of
// them is put right.
func TestFirst(t *testing.T) {
	s := numbers{state: 22}
	q := first()
	for _, z := range manySizes() {
		for _, inputs := range []int{0, 1, z.X / 2, z.X} {
			x := s.any(z, min(inputs, z.X))
			q.want(t, "any", x, false)
			q.wantMended(t, "any", x)
			for _, i := range []int{atH1, atS, atG1, atT} { // these play a part, off H
				x := q.sure(t, "any", x, i)
				q.want(t, what("put right by ", named(i)), x, true)
				q.wantAll(t, what("put right by ", named(i)), x)
			}
		}
	}
}

// Each value alone another one, of sizes and scalars that make each play a part.
func TestFirstEachPlace(t *testing.T) {
	s := numbers{state: 23}
	q := first()
	for _, z := range fewSizes() {
		x := q.sure(t, "each place", s.any(z, z.X), atH1)
		for i := range count {
			for _, k := range []*big.Int{whole(0), plus(x.l[i], whole(1)), less(whole(0), x.l[i]), s.great()} {
				q.want(t, what("another ", named(i)), x.but(i, k), !slices.Contains(q.parts, i))
			}
		}
	}
}

// Two of them exchanged: no two stand at one place.
func TestFirstExchanged(t *testing.T) {
	s := numbers{state: 24}
	q := first()
	x := q.sure(t, "exchanged", s.any(decide.Sizes{N: 8, X: 4, M: 2}, 3), atS)
	for _, i := range q.parts {
		for _, j := range q.parts {
			y := x.but(i, x.l[j]).but(j, x.l[i])
			q.want(t, what(named(i), " and ", named(j)), y, i == j)
		}
	}
	for i, l := range [][3]*big.Int{{x.e[1], x.e[0], x.e[2]}, {x.e[0], x.e[2], x.e[1]}, {x.e[2], x.e[1], x.e[0]}, {x.e[1], x.e[2], x.e[0]}} {
		y := x
		y.e = l
		q.want(t, what("e ", i), y, same(l[0], x.e[0]) && same(l[1], x.e[1]))
	}
	y := x
	y.a, y.b = x.b, x.a
	q.want(t, "a and b", y, false)
}

// places are scalars at the edges of sizes: of H, of X's domain, of K, 0, 1, r - 1, and any.
func (s *numbers) places(z decide.Sizes) (l []*big.Int) {
	l = append(wholes(0), s.great())
	for _, n := range []int{z.N, z.X, z.M, 2} {
		if n > 64 {
			continue
		}
		for _, k := range elementsOf(n)[:min(n, 3)] {
			if !slices.ContainsFunc(l, func(o *big.Int) bool { return same(o, k) }) {
				l = append(l, k)
			}
		}
	}
	return l
}

// manyScalars are e of several kinds.
func (s *numbers) manyScalars() [][3]*big.Int {
	none, k := whole(0), s.big()
	return [][3]*big.Int{s.triple(), {none, none, none}, {none, none, k}, {none, k, none}, {k, none, none}, {whole(1), minus(1), k}, {whole(1), whole(1), whole(1)}}
}

// At a and b that are edges, also the same ones.
func TestFirstAtEdges(t *testing.T) {
	s := numbers{state: 25}
	q := first()
	for _, z := range fewSizes() {
		for _, a := range s.places(z) {
			for _, b := range append(s.places(z), a) {
				x := s.any(z, 1+s.below(z.X))
				x.a, x.b = a, b
				q.wantAll(t, what("at ", a, ", ", b), x)
				x = q.sure(t, what("at ", a, ", ", b), x, atS)
				q.wantAll(t, what("at ", a, ", ", b, ", mended"), x)
			}
		}
	}
}

// By e of 0, or of which one is not, and of values that are 0.
func TestFirstOfZeros(t *testing.T) {
	s := numbers{state: 26}
	q := first()
	for _, z := range fewSizes() {
		for _, e := range s.manyScalars() {
			x := s.any(z, z.X)
			x.e = e
			q.wantMended(t, what("by ", e), x)
		}
		for which := range 1 << len(q.parts) {
			x := s.any(z, z.X)
			for j, i := range q.parts {
				if which>>j&1 == 1 {
					x.l[i] = whole(0)
				}
			}
			q.want(t, what("zeros ", which), x, q.holds(x))
			if y, is := q.mended(x, atH1); is {
				q.want(t, what("zeros ", which, ", mended"), y, true)
			}
		}
	}
}

// What a value is multiplied by, told by the words once more: where that is 0 the value plays
// no part, and else it does.
func TestFirstWhatIsMultipliedByZero(t *testing.T) {
	s := numbers{state: 27}
	q, z := first(), decide.Sizes{N: 8, X: 4, M: 2}
	h, xs := elementsOf(8), elementsOf(4)
	for i, x := range []struct {
		alter func(x *tale)
		none  []int // that play no part
	}{
		{func(x *tale) {}, nil},
		{func(x *tale) { x.l[atT] = whole(0) }, []int{atW}},
		{func(x *tale) { x.b = xs[3] }, []int{atW, atH1}},
		{func(x *tale) { x.b = h[3] }, []int{atH1}},
		{func(x *tale) { x.b = whole(0) }, []int{atG1}},
		{func(x *tale) { x.e[0], x.e[2] = whole(0), whole(0) }, []int{atA}},
		{func(x *tale) { x.e[1], x.e[2] = whole(0), whole(0) }, []int{atB}},
		{func(x *tale) { x.e[0], x.l[atB] = whole(0), whole(0) }, []int{atA}},
		{func(x *tale) { x.e[1], x.l[atA] = whole(0), whole(0) }, []int{atB}},
		{func(x *tale) { x.l[atB] = per(x.e[0], less(whole(0), x.e[2])) }, []int{atA}},
		{func(x *tale) { x.l[atA] = per(x.e[1], less(whole(0), x.e[2])) }, []int{atB}},
		{func(x *tale) { x.a, x.b = h[1], h[3] }, []int{atA, atB, atH1}},
		{func(x *tale) { x.a = less(whole(0), x.b) }, []int{atA, atB}},
		{func(x *tale) { x.a = x.b }, nil},
		{func(x *tale) { x.a, x.b = h[5], h[5] }, []int{atH1}},
		{func(x *tale) { x.l[atW], x.in = whole(0), zeros(4) }, []int{atT}},
		{func(x *tale) { x.l[atW] = per(less(whole(0), x.inputs()), v(4, x.b)) }, []int{atT}},
	} {
		y := s.any(z, 4)
		x.alter(&y)
		y = q.sure(t, what(i), y, atS)
		for _, place := range q.parts {
			q.want(t, what(i, ", another ", named(place)), y.but(place, s.great()), slices.Contains(x.none, place))
		}
	}
}

// Other inputs: it holds of them just if they are worth the same at b, or T is 0.
func TestFirstOfOtherInputs(t *testing.T) {
	s := numbers{state: 28}
	q := first()
	for _, z := range fewSizes() {
		x := q.sure(t, "inputs", s.any(z, z.X), atH1)
		for i := range x.in {
			y := x
			y.in = slices.Clone(x.in)
			y.in[i] = plus(y.in[i], whole(1))
			q.want(t, what("another input ", i), y, false)
			y.l[atT] = whole(0)
			q.want(t, what("another input ", i, ", T 0"), q.sure(t, "T 0", y, atH1), true)
			y.in = x.in
			q.want(t, what("input ", i, ", T 0"), q.sure(t, "T 0", y, atH1), true)
		}
		if z.X > 1 { // a polynomial that is 0 at b, and nowhere else
			y, k := x, s.big()
			y.in = nil
			for i, element := range elementsOf(z.X) {
				y.in = append(y.in, plus(x.in[i], times(k, less(element, x.b))))
			}
			q.want(t, "the same at b", y, true)
			y.in = append(y.in[1:], y.in[0])
			q.want(t, "turned", y, q.holds(y))
		}
	}
}

// At an element of X's domain W plays no part, and I is the input itself.
func TestFirstAtInputs(t *testing.T) {
	s := numbers{state: 29}
	q, z := first(), decide.Sizes{N: 16, X: 8, M: 2}
	for i, b := range elementsOf(8) {
		x := s.any(z, 8)
		x.b = b
		x = q.sure(t, what("at ", i), x, atS)
		for j := range x.in {
			y := x
			y.in = slices.Clone(x.in)
			y.in[j] = s.great()
			q.want(t, what("at ", i, " another ", j), y, i != j)
		}
		q.want(t, what("at ", i, " another W"), x.but(atW, s.great()), true)
		x.in = x.in[:i]
		q.want(t, what("at ", i, " no input"), x, false)
	}
}

// N and X play a part each, and M does not; neither does g.
func TestFirstBySizes(t *testing.T) {
	s := numbers{state: 30}
	q := first()
	x := q.sure(t, "sizes", s.any(decide.Sizes{N: 16, X: 4, M: 8}, 3), atH1)
	for _, n := range powersOf2() {
		for i, wanted := range []bool{n == 16, n == 4, true} {
			y := x
			if y.z = sized(x.z, 1<<i, n); y.z.X < len(y.in) {
				continue
			}
			if i != 1 || n <= 64 {
				q.want(t, "one other size", y, wanted)
			}
		}
	}
	for range 5 {
		x.g = s.great()
		q.want(t, "another g", x, true)
	}
}

// Each size that there is may be each of the three.
func TestFirstOfEachSize(t *testing.T) {
	s := numbers{state: 31}
	q := first()
	for _, n := range powersOf2() {
		for i := range 3 {
			z := sized(decide.Sizes{N: 8, X: 4, M: 2}, 1<<i, n)
			x := q.sure(t, "each size", s.any(z, 1), atH1)
			q.want(t, "each size", x, true)
			q.want(t, "each size, another H1", x.but(atH1, s.great()), false)
		}
	}
}

// As many inputs as the greatest X has elements: what 5 - 4 Z is worth. At b that is as good
// as one input, of an X of 1, which is worth the same everywhere.
func TestFirstOfGreatX(t *testing.T) {
	s := numbers{state: 32}
	q := first()
	x := s.any(decide.Sizes{N: api.MaxDomain, X: 1, M: 1}, 0)
	x.l[atW] = whole(0)
	x.in = []*big.Int{less(whole(5), times(whole(4), x.b))}
	x = q.sure(t, "X 1", x, atH1)
	x.z.X, x.in = api.MaxDomain, nil
	for _, h := range elementsOf(x.z.X) {
		x.in = append(x.in, less(whole(5), times(whole(4), h)))
	}
	q.want(t, "great X", x, true)
	x.in[x.z.X-1] = plus(x.in[x.z.X-1], whole(1))
	q.want(t, "great X, another last one", x, false)
}
