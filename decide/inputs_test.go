package decide_test

import (
	"math/big"
	"slices"
	"testing"

	"marlinspike/api"
	"marlinspike/decide"
)

// P26.1

func TestInputsExamples(t *testing.T) {
	z := decide.Sizes{N: 4, X: 2, M: 2}
	in := wholes(1, 9)
	for _, x := range [][2]int64{{1, 1}, {-1, 9}, {3, -7}, {0, 5}, {2, -3}, {-7, 33}} {
		wantInputs(t, "5 - 4 Z", z, in, whole(x[0]), whole(x[1]))
	}
}

// Of each length up to X, at each element, and elsewhere.
func TestInputs(t *testing.T) {
	s := numbers{state: 1}
	for x := 1; x <= 16; x *= 2 {
		z := decide.Sizes{N: 16, X: x, M: 4}
		elements := elementsOf(x)
		for length := range x + 1 {
			in := s.list(length)
			for i, b := range elements {
				wanted := whole(0)
				if i < length {
					wanted = in[i]
				}
				wantInputs(t, what("element ", i), z, in, b, wanted)
			}
			for _, b := range append(wholes(0, 2, -1, -2, 77), elementsOf(2 * x)[1], s.great(), s.great(), s.big()) {
				wantInputs(t, "elsewhere", z, in, b, tale{z: z, in: in, b: b}.inputs())
			}
		}
	}
}

// Of one input there is nothing but its Lagrange polynomial.
func TestInputsOfOneAlone(t *testing.T) {
	s := numbers{state: 2}
	for x := 1; x <= 32; x *= 2 {
		z, elements := decide.Sizes{N: 4, X: x, M: 2}, elementsOf(x)
		for i := range x {
			in, b := zeros(x), s.great()
			in[i] = whole(1)
			wantInputs(t, what("the one of ", i), z, in, b, lagrange(elements, i, b))
			wantInputs(t, what("the one of ", i, ", no zeros behind"), z, in[:i+1], b, lagrange(elements, i, b))
		}
	}
}

// No inputs, inputs that are all 0, and such as end in zeros.
func TestInputsOfZeros(t *testing.T) {
	s := numbers{state: 3}
	for x := 1; x <= 16; x *= 2 {
		z := decide.Sizes{N: 8, X: x, M: 2}
		for _, b := range append(append(wholes(0, 1, -1, 5), elementsOf(x)...), s.great(), s.great()) {
			wantInputs(t, "none", z, nil, b, whole(0))
			for length := range x + 1 {
				wantInputs(t, "zeros", z, zeros(length), b, whole(0))
				in := s.list(length)
				wanted := tale{z: z, in: in, b: b}.inputs()
				for more := range x - length + 1 {
					wantInputs(t, what(more, " zeros behind"), z, append(slices.Clone(in), zeros(more)...), b, wanted)
				}
			}
		}
	}
}

// Zeros ahead of inputs, or between, are inputs.
func TestInputsOfZerosAhead(t *testing.T) {
	s := numbers{state: 4}
	z, b := decide.Sizes{N: 8, X: 8, M: 2}, s.great()
	for ahead := range 8 {
		in := append(zeros(ahead), s.big())
		wantInputs(t, what(ahead, " zeros ahead"), z, in, b, tale{z: z, in: in, b: b}.inputs())
	}
}

// N and M play no part.
func TestInputsByXAlone(t *testing.T) {
	s := numbers{state: 5}
	in, b := s.list(4), s.great()
	wanted := tale{z: decide.Sizes{X: 4}, in: in, b: b}.inputs()
	for _, n := range powersOf2() {
		for _, m := range powersOf2() {
			wantInputs(t, "sizes", decide.Sizes{N: n, X: 4, M: m}, in, b, wanted)
		}
	}
}

// Of each X that there is, by few inputs.
func TestInputsOfEachX(t *testing.T) {
	s := numbers{state: 6}
	for _, x := range powersOf2() {
		z := decide.Sizes{N: 4, X: x, M: 2}
		for length := range min(x, 3) + 1 {
			in := make([]*big.Int, length)
			for i := range in {
				in[i] = s.big()
			}
			for _, b := range []*big.Int{whole(0), s.great()} {
				wantInputs(t, "few", z, in, b, tale{z: z, in: in, b: b}.inputs())
			}
		}
	}
}

// As many as X, for a great one: they are what a polynomial of few scalars, or of one high
// power, is worth at the elements; and so that is I.
func TestInputsOfGreatX(t *testing.T) {
	s := numbers{state: 7}
	for _, x := range []int{512, 1024, api.MaxDomain / 2, api.MaxDomain} {
		z, elements, p := decide.Sizes{N: 2, X: x, M: 1}, elementsOf(x), s.list(5)
		high := s.great()
		of := func(b *big.Int) *big.Int { return plus(worth(p, b), times(high, raised(b, x-1))) }
		var in []*big.Int
		for _, h := range elements {
			in = append(in, of(h))
		}
		for _, b := range []*big.Int{s.great(), elements[x-1], whole(0)} {
			wantInputs(t, "as many as X", z, in, b, of(b))
		}
		last := less(of(elements[x-1]), times(whole(2), whole(int64(x))))
		wantInputs(t, "the last one", z, append(in[:x-1:x-1], last), elements[x-1], last)
	}
}

// I goes by the inputs, all together.
func TestInputsGoTogether(t *testing.T) {
	s := numbers{state: 8}
	for x := 1; x <= 16; x *= 2 {
		z := decide.Sizes{N: 4, X: x, M: 2}
		for range 5 {
			one, other, k, b := s.list(x), s.list(1+s.below(x)), s.big(), s.great()
			all := slices.Clone(one)
			for i, o := range other {
				all[i] = plus(all[i], times(k, o))
			}
			f, _ := decide.Inputs(z, els(one), el(b))
			g, _ := decide.Inputs(z, els(other), el(b))
			wantInputs(t, "together", z, all, b, plus(back(f), times(k, back(g))))
		}
	}
}

// And it is a polynomial of at most X scalars: of what it is worth at X places that are not
// elements follows what it is worth elsewhere.
func TestInputsAreAPolynomial(t *testing.T) {
	s := numbers{state: 9}
	for x := 1; x <= 16; x *= 2 {
		z, in, b := decide.Sizes{N: 4, X: x, M: 2}, els(s.list(x)), s.great()
		var places []*big.Int
		for i := range x {
			places = append(places, whole(int64(3*i+2)))
		}
		wanted := whole(0)
		for i, place := range places {
			y, _ := decide.Inputs(z, in, el(place))
			wanted = plus(wanted, times(back(y), lagrange(places, i, b)))
		}
		wantInputs(t, "of X places", z, backs(in), b, wanted)
	}
}
