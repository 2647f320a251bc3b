package rounds_test

import (
	"fmt"
	"math"
	"math/big"
	"slices"
	"testing"

	"marlinspike/api"
	"marlinspike/fr"
	"marlinspike/index"
	"marlinspike/pad"
	"marlinspike/rounds"
)

// ErrSize in all calls, and which error goes ahead.

// noSizes are numbers that are no sizes of domains.
func noSizes() []int {
	return []int{0, -1, -2, -4, -api.MaxDomain, 3, 5, 6, 7, 9, 12, 1000, api.MaxDomain - 1, api.MaxDomain + 1, 3 * api.MaxDomain / 4, 2 * api.MaxDomain, 1 << 20, 1 << 31, 1<<31 + 1, 1 << 32, 1<<32 + 1, 1<<32 + 4, 1 << 47, 1 << 48, 1 << 62, math.MinInt, math.MinInt + 1, math.MinInt + 4, math.MaxInt, math.MaxInt - 1}
}

// tale is what is handed to the three calls.
type tale struct {
	s pad.Shape
	x index.Index
	z []*big.Int
	d []*big.Int
	p rounds.First
	a *big.Int
	e [3]*big.Int
	b *big.Int
}

// good is one that is refused nowhere.
func (s *numbers) good(t *testing.T) tale {
	t.Helper()
	shape := padded(t, cube())
	z, d := spread(t, shape, wholes(1, 35, 3, 9, 27)), s.draws(shape)
	return tale{shape, indexOf(t, shape), z, d, oneOf(t, shape, z, d), s.off(8), s.triple(), s.off(8)}
}

// sizes writes one number of sizes, or several, to both.
func (x *tale) sizes(which, n int) {
	for i, p := range [][2]*int{{&x.s.N, &x.x.N}, {&x.s.X, &x.x.X}, {&x.s.M, &x.x.M}} {
		if which>>i&1 == 1 {
			*p[0], *p[1] = n, n
		}
	}
}

// refused fails if one of the calls does not answer this error, and nothing else.
func (x tale) refused(t *testing.T, what string, one, two, three api.Errno) {
	t.Helper()
	if one != api.OK {
		refuseOne(t, what, x.s, els(x.z), els(x.d), one)
	} else {
		oneOf(t, x.s, x.z, x.d)
	}
	if two != api.OK {
		refuseTwo(t, what, x.x, x.p, x.a, x.e, two)
	} else {
		twoOf(t, x.x, x.p, x.a, x.e)
	}
	if three != api.OK {
		refuseThree(t, what, x.x, x.a, x.e, x.b, three)
	} else {
		threeOf(t, x.x, x.a, x.e, x.b)
	}
}

// N, X, M that are none, each by itself, and together.
func TestNoSizes(t *testing.T) {
	s := numbers{state: 60}
	for _, n := range noSizes() {
		for which := 1; which < 8; which++ {
			x := s.good(t)
			x.refused(t, "good", api.OK, api.OK, api.OK)
			x.sizes(which, n)
			x.refused(t, fmt.Sprint(n, ", ", which), api.ErrSize, api.ErrSize, api.ErrSize)
			if count := 3 + 2*n; n > 0 && n <= 1<<17 { // lists that would go with it are no better
				x.z, x.d = zeros(n), zeros(count)
			}
			x.refused(t, fmt.Sprint(n, ", ", which, ", lists"), api.ErrSize, api.ErrSize, api.ErrSize)
		}
	}
}

// Each size that a domain has may be each of the three.
func TestSizes(t *testing.T) {
	s := numbers{state: 61}
	for _, n := range powersOf2() {
		shape := pad.Shape{N: n, X: 1, M: 2, Rows: [3][]api.Entry{s.loose(n, 2), s.loose(n, 1), nil}}
		p := oneOf(t, shape, zeros(n), s.draws(shape))
		wantInForm(t, fmt.Sprint("N ", n), p.Z, n+1)
		if n <= 64 {
			wantOne(t, fmt.Sprint("N ", n), shape, s.list(n), s.draws(shape))
		}
		shape.X, shape.M = n, 1
		p = oneOf(t, shape, zeros(n), s.draws(shape))
		if len(p.I) > 0 || len(p.W) > 1 {
			t.Errorf("X %d: %s, %s", n, brief(backs(p.I)), brief(backs(p.W)))
		}
		x := index.Index{N: n, X: 2, M: 4}
		s3, g, h := wholes(0, 3), wholes(3), []*big.Int(nil)
		if n == 1 { // there 3 Y less 3 is 3 v
			s3, g, h = wholes(-3, 3), nil, wholes(3)
		}
		q := twoOf(t, x, rounds.First{S: els(s3)}, s.off(n), s.triple())
		wantPoly(t, fmt.Sprint("N ", n, ", G1"), q.G, g)
		wantPoly(t, fmt.Sprint("N ", n, ", H1"), q.H, h)
		third := threeOf(t, x, whole(2), s.triple(), whole(3))
		if len(third.G) > 0 || len(third.H) > 0 {
			t.Errorf("N %d: an Index of no lists: %s, %s", n, brief(backs(third.G)), brief(backs(third.H)))
		}
		x.N, x.M = 4, n
		twoOf(t, x, rounds.First{}, s.off(4), s.triple())
		threeOf(t, x, whole(2), s.triple(), whole(3))
	}
}

// An X that is above N, by hand, lies nowhere on H. Z less I goes by vX without a rest if I
// is Z, and as Z has no more scalars than X has elements, nothing else does.
func TestXAboveN(t *testing.T) {
	s := numbers{state: 62}
	for n := 1; n <= 16; n *= 2 {
		for x := 2 * n; x <= api.MaxDomain; x *= 4 {
			shape := s.byHand(sized{n, x, 2, 2, 1, 1})
			z, d := s.list(n), s.draws(shape)
			p := oneOf(t, shape, z, d)
			shape.X = 1
			wanted := firstOf(shape, z, d)
			for i, l := range [][]*big.Int{wanted.z, wanted.z, nil, wanted.a, wanted.b, wanted.s} {
				wantPoly(t, fmt.Sprint(n, x, ", "+"ZIWABS"[i:i+1]), *listsOf1(&p)[i], l)
			}
			shape.X = x
			refuseOne(t, fmt.Sprint(n, x, ", lists of X's"), shape, make([]fr.El, x), make([]fr.El, 3+2*x), api.ErrArg)
			refuseOne(t, fmt.Sprint(n, x, ", no lists"), shape, nil, nil, api.ErrArg)
			shape.M = 3
			refuseOne(t, fmt.Sprint(n, x, ", M"), shape, els(z), els(d), api.ErrSize)
		}
	}
}

// The zero Shape, First and Index.
func TestZeroValues(t *testing.T) {
	s := numbers{state: 63}
	x := s.good(t)
	if got := rounds.Draws(pad.Shape{}); got != 3 {
		t.Errorf("Draws: %d", got)
	}
	x.s, x.x = pad.Shape{}, index.Index{}
	x.refused(t, "zero", api.ErrSize, api.ErrSize, api.ErrSize)
	x.z, x.d, x.p = nil, zeros(3), rounds.First{}
	x.refused(t, "zero, of no lists", api.ErrSize, api.ErrSize, api.ErrSize)
	x.d = nil
	x.refused(t, "zero, of no draws", api.ErrSize, api.ErrSize, api.ErrSize)
}

// ErrSize goes ahead of ErrArg, of ErrDraw and of ErrCheck, ErrDraw of ErrCheck.
func TestFirstError(t *testing.T) {
	s := numbers{state: 64}
	h := elementsOf(8)
	for i := range 64 {
		x := s.good(t)
		one, two, three := api.OK, api.OK, api.OK
		if i&1 == 1 {
			x.z, one = x.z[:7], api.ErrArg
		}
		if i&2 == 2 {
			x.d, one = append(x.d, whole(0)), api.ErrArg
		}
		if i&4 == 4 {
			bad := oneOf(t, padded(t, cube()), wholes(1, 3, 9, 27, 36, 0, 0, 0), s.draws(padded(t, cube())))
			x.p, x.e, two = bad, [3]*big.Int{whole(0), whole(0), whole(1)}, api.ErrCheck
		}
		if i&8 == 8 {
			x.a, two, three = h[s.below(8)], api.ErrDraw, api.ErrDraw
		}
		if i&16 == 16 {
			x.b, three = h[s.below(8)], api.ErrDraw
		}
		if i&32 == 32 {
			x.sizes(1+s.below(7), noSizes()[s.below(len(noSizes()))])
			one, two, three = api.ErrSize, api.ErrSize, api.ErrSize
		}
		x.refused(t, fmt.Sprint(i), one, two, three)
	}
}

// A b of H is told ahead of what is divided by 0, and no Index is so bad that a size is
// not told first.
func TestFirstErrorByHand(t *testing.T) {
	s := numbers{state: 65}
	x := index.Index{N: 4, X: 2, M: 2}
	refuseThree(t, "a 0 and b 1", x, whole(0), s.triple(), whole(1), api.ErrDraw)
	for _, p := range []*int{&x.N, &x.X, &x.M} {
		was := *p
		*p = 3
		refuseThree(t, "a 0, b 1, a size", x, whole(0), s.triple(), whole(1), api.ErrSize)
		refuseThree(t, "a 0, a size", x, whole(0), s.triple(), whole(2), api.ErrSize)
		refuseTwo(t, "a 1, a size", x, rounds.First{S: els(wholes(1))}, whole(1), s.triple(), api.ErrSize)
		*p = was
	}
	refuseTwo(t, "a 1, not even", x, rounds.First{S: els(wholes(1))}, whole(1), s.triple(), api.ErrDraw)
	refuseTwo(t, "not even", x, rounds.First{S: els(wholes(1))}, whole(2), s.triple(), api.ErrCheck)
}

// Entries by hand that are out of bounds, or whose Val is no scalar, in A or in B: there are
// no rows' sums of them. In C they play no part.
func TestEntriesByHand(t *testing.T) {
	s := numbers{state: 66}
	good := entries([3]int64{0, 1, 3}, [3]int64{7, 7, 4})
	for _, bad := range []api.Entry{
		{Row: 8, Val: bytesOf(whole(1))}, {Col: 8, Val: bytesOf(whole(1))}, {Row: math.MaxUint32}, {Col: math.MaxUint32}, {Val: bytesOf(r)}, {Val: api.Scalar{255}},
		{Row: 9, Col: 9, Val: bytesOf(r)},
	} {
		for i := range 9 {
			shape := pad.Shape{N: 8, X: 2, M: 4, Rows: [3][]api.Entry{good, good, good}}
			shape.Rows[i/3] = slices.Insert(slices.Clone(good), i%3, bad)
			z, d := s.list(8), s.draws(shape)
			if i >= 6 {
				wantOne(t, fmt.Sprint(bad, i), shape, z, d)
				continue
			}
			refuseOne(t, fmt.Sprint(bad, i), shape, els(z), els(d), api.ErrArg)
			refuseOne(t, fmt.Sprint(bad, i, ", no lists"), shape, nil, nil, api.ErrArg)
			shape.X = 3
			refuseOne(t, fmt.Sprint(bad, i, ", X"), shape, els(z), els(d), api.ErrSize)
		}
	}
}
