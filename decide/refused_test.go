package decide_test

import (
	"math"
	"math/big"
	"testing"

	"marlinspike/api"
	"marlinspike/decide"
	"marlinspike/fr"
)

// ErrSize, ErrArg, and which goes ahead.

// allTrue is a tale of which both equations hold, and Inputs tells something.
func (s *numbers) allTrue(t *testing.T, z decide.Sizes, inputs int) tale {
	t.Helper()
	x := first().sure(t, "good", s.any(z, inputs), atH1)
	x = second().sure(t, "good", x, atH2)
	x.refused(t, "good", api.OK, api.OK, api.OK)
	for _, q := range both() {
		q.want(t, "good", x, true)
	}
	return x
}

// N, X and M that are none, each by itself, and together; inputs play no part then, be they
// too many or not.
func TestNoSizes(t *testing.T) {
	s := numbers{state: 60}
	x := s.allTrue(t, decide.Sizes{N: 8, X: 4, M: 2}, 4)
	many := zeros(5000)
	for _, n := range noSizes() {
		for which := 1; which < 8; which++ {
			y := x
			y.z = sized(x.z, which, n)
			for _, in := range [][]*big.Int{x.in, nil, zeros(1), s.list(5)} {
				y.in = in
				y.refused(t, what(n, ", ", which, ", of ", len(in)), api.ErrSize, api.ErrSize, api.ErrSize)
			}
		}
		for i := range 3 {
			y := x
			y.z, y.in = sized(x.z, 1<<i, n), many
			y.refused(t, what(n, ", ", i, ", of very many"), api.ErrSize, api.ErrSize, api.ErrSize)
		}
	}
}

// Of two that are none, or three, unlike ones.
func TestNoSizesOfSeveralKinds(t *testing.T) {
	s := numbers{state: 61}
	x := s.allTrue(t, decide.Sizes{N: 1, X: 1, M: 1}, 1)
	for range 400 {
		l, y := noSizes(), x
		for i := range 3 {
			if s.below(2) == 0 {
				y.z = sized(y.z, 1<<i, l[s.below(len(l))])
			}
		}
		if y.z == x.z {
			continue
		}
		y.in = s.list(s.below(4))
		y.refused(t, "several", api.ErrSize, api.ErrSize, api.ErrSize)
	}
}

// All other answers beside an error are zero: so it is where all would be 1, or hold.
func TestNothingBesideAnError(t *testing.T) {
	one := []fr.El{fr.Of(1), fr.Of(1), fr.Of(1)}
	for _, z := range []decide.Sizes{{}, {3, 1, 1}, {1, 3, 1}, {1, 1, 3}, {1, 1, 0}, {0, 4, 4}, {4, 4, -4}, {2 * api.MaxDomain, 4, 4}, {4, 2, 2}, {1, 1, 1}} {
		wanted := api.ErrArg
		if z.N*z.X*z.M == 0 || z.N == 3 || z.X == 3 || z.M == 3 || z.M < 0 || z.N > api.MaxDomain {
			wanted = api.ErrSize
		}
		if got, e := decide.Inputs(z, one, fr.Of(1)); e != wanted || got != (fr.El{}) {
			t.Errorf("Inputs of %+v: %v, %v", z, back(got), e)
		}
		if is, e := decide.First(z, one, fr.El{}, [3]fr.El{}, fr.El{}, decide.Values{}); e != wanted || is {
			t.Errorf("First of %+v: %v, %v", z, is, e)
		}
		if wanted == api.ErrArg { // of which Second knows nothing
			wanted = api.OK
		}
		if is, e := decide.Second(z, fr.El{}, [3]fr.El{}, fr.El{}, fr.El{}, decide.Values{}); e != wanted || is != (wanted == api.OK) {
			t.Errorf("Second of %+v: %v, %v", z, is, e)
		}
	}
}

// No inputs at all, one, X and X + 1 of them, and more, also such as end in zeros, or are all
// 0.
func TestTooManyInputs(t *testing.T) {
	s := numbers{state: 62}
	for x := 1; x <= 64; x *= 2 {
		y := s.allTrue(t, decide.Sizes{N: 64, X: x, M: 2}, x)
		for _, length := range []int{0, 1, x - 1, x, x + 1, x + 2, 2 * x, 2*x + 1, 64, 65, 1000} {
			wanted := api.OK
			if length > x {
				wanted = api.ErrArg
			}
			for _, in := range [][]*big.Int{s.list(length), zeros(length), append(s.list(length/2), zeros(length-length/2)...)} {
				y.in = in
				y.refused(t, what("of ", length), wanted, wanted, api.OK)
			}
		}
	}
}

// For each X that there is: one more than it is too many.
func TestOneInputTooMany(t *testing.T) {
	s := numbers{state: 63}
	for _, x := range powersOf2() {
		y := s.any(decide.Sizes{N: 2, X: x, M: 2}, 0)
		y.in = zeros(x + 1)
		y.refused(t, "X + 1", api.ErrArg, api.ErrArg, api.OK)
		y.in = append(y.in, s.list(9)...)
		y.refused(t, "X + 10", api.ErrArg, api.ErrArg, api.OK)
		for _, which := range []int{1, 4, 5} {
			z := y
			z.z = sized(y.z, which, 6)
			z.refused(t, "X + 10, a size", api.ErrSize, api.ErrSize, api.ErrSize)
		}
	}
	y := s.any(decide.Sizes{N: 2, X: api.MaxDomain, M: 2}, 0)
	y.in = zeros(api.MaxDomain)
	y.refused(t, "X", api.OK, api.OK, api.OK)
}

// A list that is as long as what is no size is none the better.
func TestAsManyInputsAsNoSize(t *testing.T) {
	s := numbers{state: 64}
	for _, n := range noSizes() {
		if n < 0 || n > 1<<17 {
			continue
		}
		x := s.any(decide.Sizes{N: 4, X: n, M: 2}, 0)
		for _, length := range []int{n, n + 1, max(n-1, 0)} {
			x.in = zeros(length)
			x.refused(t, what(n), api.ErrSize, api.ErrSize, api.ErrSize)
		}
	}
}

// Of all choices of faults the first error is told.
func TestFirstError(t *testing.T) {
	s := numbers{state: 65}
	for range 300 {
		x := s.any(decide.Sizes{N: 1 << s.below(7), X: 1 << s.below(5), M: 1 << s.below(7)}, 0)
		one, two := api.OK, api.OK
		if x.in = s.list(s.below(x.z.X + 1)); s.below(2) == 0 {
			x.in, one = s.list(x.z.X+1+s.below(3)), api.ErrArg
		}
		if which := s.below(24); which < 8 && which > 0 {
			l := noSizes()
			x.z, one, two = sized(x.z, which, l[s.below(len(l))]), api.ErrSize, api.ErrSize
		}
		x.refused(t, "faults", one, one, two)
	}
}

// The least and the greatest numbers of their kind.
func TestGreatestNumbers(t *testing.T) {
	s := numbers{state: 66}
	x := s.allTrue(t, decide.Sizes{N: 4, X: 4, M: 4}, 2)
	for _, n := range []int{math.MinInt, math.MinInt + 1, -math.MaxInt, math.MaxInt - 1, math.MaxInt, math.MinInt32, math.MaxInt32, math.MaxUint32} {
		for which := 1; which < 8; which++ {
			y := x
			y.z = sized(x.z, which, n)
			y.refused(t, what(n), api.ErrSize, api.ErrSize, api.ErrSize)
		}
	}
}
