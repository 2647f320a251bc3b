package pad_test

import (
	"fmt"
	"math/big"
	"slices"
	"testing"

	"marlinspike/api"
	"marlinspike/domain"
	"marlinspike/fr"
	"marlinspike/pad"
	"marlinspike/r1cs"
)

// P23.3

// domainOf is the domain of a size.
func domainOf(t *testing.T, n int) *domain.Domain {
	t.Helper()
	d, e := domain.New(n)
	if e != api.OK {
		t.Fatalf("%d: %v", n, e)
	}
	return d
}

// No two variables lie at one place; inputs, and they alone, lie on X, in order.
func TestPlacesAreApart(t *testing.T) {
	check := func(rows, cols, inputs int) {
		s := padOf(t, api.Circuit{Rows: uint32(rows), Cols: uint32(cols), Inputs: uint32(inputs)})
		what := fmt.Sprintf("%d, %d, %d", rows, cols, inputs)
		if len(s.Places) != cols || !slices.IsSorted(s.Places[:inputs]) || !slices.IsSorted(s.Places[inputs:]) {
			t.Errorf("%s: %v", what, s.Places)
		}
		seen := map[int]int{}
		for j, place := range s.Places {
			if o, is := seen[place]; is || place < 0 || place >= s.N {
				t.Errorf("%s: %d lies at %d, as %d", what, j, place, o)
			}
			seen[place] = j
			if onX := place%(s.N/s.X) == 0; onX != (j < inputs) || onX && place != j*(s.N/s.X) {
				t.Errorf("%s: %d lies at %d", what, j, place)
			}
		}
	}
	for rows := 1; rows < 20; rows += 6 {
		for cols := 1; cols <= 40; cols++ {
			for inputs := 1; inputs <= cols; inputs++ {
				check(rows, cols, inputs)
			}
		}
	}
	for _, cols := range []int{255, 256, 257, 511, 512, 513, 1000, 1023, 1024} {
		for inputs := 1; inputs <= cols; inputs += 1 + inputs/9 {
			check(1, cols, inputs)
			check(1024, cols, inputs)
		}
		check(cols, cols, cols)
	}
}

// By the domains themselves: the j-th input lies at the j-th element of X's, and what is
// no input at none of them.
func TestInputsLieOnX(t *testing.T) {
	s := numbers{state: 20}
	for _, x := range append(sketches(), greatSketches()[6:]...) {
		shape := padOf(t, s.drawn(x))
		h, on := domainOf(t, shape.N), domainOf(t, shape.X)
		for j, place := range shape.Places {
			at := h.At(place)
			if on.Has(at) != (j < x.inputs) || j < x.inputs && at != on.At(j) {
				t.Errorf("%v: %d lies at %d", x, j, place)
			}
		}
		if domainOf(t, shape.M).Size() < max(x.a, x.b, x.c) {
			t.Errorf("%v: K has %d elements", x, shape.M)
		}
	}
}

// What is worth an assignment on H is worth its inputs on X.
func TestInputsAreWorthTheirsOnX(t *testing.T) {
	s := numbers{state: 21}
	for _, x := range sketches() {
		shape := padOf(t, s.drawn(x))
		h, on := domainOf(t, shape.N), domainOf(t, shape.X)
		z := els(s.assignment(x.cols))
		p, e := h.Poly(spread(t, shape, z))
		if e != api.OK {
			t.Fatalf("%v: %v", x, e)
		}
		wanted := append(slices.Clone(z[:x.inputs]), make([]fr.El, shape.X-x.inputs)...)
		wantScalars(t, fmt.Sprint(x), on.Values(p), wanted)
	}
}

// Rows' sums are those of the circuit, and 0 behind.
func TestSumsAreTheCircuits(t *testing.T) {
	s := numbers{state: 22}
	for i, x := range slices.Concat(sketches(), sketches(), greatSketches()) {
		c := s.drawn(x)
		shape := padOf(t, c)
		for _, numbers := range [][]*big.Int{s.assignment(x.cols), s.list(x.cols)} {
			z := els(numbers)
			laid := spread(t, shape, z)
			for k, m := range matrices(&c) {
				l, e := r1cs.Apply(*m, x.rows, z)
				if e != api.OK {
					t.Fatalf("%v: %v", x, e)
				}
				l = append(l, make([]fr.El, shape.N-x.rows)...)
				wantScalars(t, fmt.Sprintf("%d: %v, %d", i, x, k), applied(t, shape, k, laid), l)
			}
		}
	}
}

// brokenRows are the rows that do not hold of what is padded.
func brokenRows(t *testing.T, s pad.Shape, z []fr.El) (l []int) {
	t.Helper()
	laid := spread(t, s, z)
	a, b, p := applied(t, s, 0, laid), applied(t, s, 1, laid), applied(t, s, 2, laid)
	for i := range s.N {
		if a[i].Mul(b[i]) != p[i] {
			l = append(l, i)
		}
	}
	return l
}

// An assignment satisfies a circuit just if what is padded satisfies it, row by row.
func TestWhatSatisfies(t *testing.T) {
	s := numbers{state: 23}
	told := map[api.Errno]int{}
	for i, x := range slices.Concat(slices.Repeat(sketches(), 8), greatSketches()) {
		if x.c+x.rows > api.MaxEntry { // what it lacks would be too much
			continue
		}
		c, z := s.solved(x)
		if x.cols > 1 && i%3 > 0 {
			z = slices.Clone(z)
			for range s.below(3) {
				z[1+s.below(x.cols-1)] = s.big()
			}
		}
		e := r1cs.Satisfied(c, els(z))
		told[e]++
		got, wanted := brokenRows(t, padOf(t, c), els(z)), broken(c, z)
		if !slices.Equal(got, wanted) || (len(got) == 0) != (e == api.OK) {
			t.Errorf("%d: %v: the rows %v, not %v; %v", i, x, got, wanted, e)
		}
	}
	if told[api.OK] < 50 || told[api.ErrCheck] < 50 || len(told) != 2 {
		t.Errorf("too few: %v", told)
	}
}

// As a circuit: what is padded is one, of N rows and columns, and the padded assignment
// satisfies it just if the assignment satisfies the first.
func TestPaddedIsACircuit(t *testing.T) {
	s := numbers{state: 24}
	told := map[api.Errno]int{}
	for i, x := range slices.Repeat(sketches(), 4) {
		c, z := s.solved(x)
		if i%2 == 1 {
			z = s.assignment(x.cols)
		}
		shape := padOf(t, c)
		n := uint32(shape.N)
		o := api.Circuit{Rows: n, Cols: n, Inputs: 1, A: shape.Rows[0], B: shape.Rows[1], C: shape.Rows[2]}
		wanted := r1cs.Satisfied(c, els(z))
		told[wanted]++
		if e := r1cs.Satisfied(o, spread(t, shape, els(z))); e != wanted {
			t.Errorf("%d: %v: %v, not %v", i, x, e, wanted)
		}
	}
	if told[api.OK] < 50 || told[api.ErrCheck] < 30 || len(told) != 2 {
		t.Errorf("too few: %v", told)
	}
}

// What stands at places that are no variable's plays no part.
func TestOtherPlacesPlayNoPart(t *testing.T) {
	s := numbers{state: 25}
	free := 0
	for i, x := range sketches() {
		shape := padOf(t, s.drawn(x))
		laid := spread(t, shape, els(s.assignment(x.cols)))
		other := slices.Clone(laid)
		for place := range other {
			if !slices.Contains(shape.Places, place) {
				other[place] = el(s.big())
				free++
			}
		}
		for k := range 3 {
			wantScalars(t, fmt.Sprintf("%d: %v, %d", i, x, k), applied(t, shape, k, other), applied(t, shape, k, laid))
		}
	}
	if free < 100 {
		t.Errorf("just %d", free)
	}
}

// Assignments stand where the places say, and can be told again.
func TestAssignmentsComeBack(t *testing.T) {
	s := numbers{state: 26}
	for _, x := range append(sketches(), greatSketches()...) {
		shape := padOf(t, s.drawn(x))
		z := els(s.list(x.cols))
		laid := spread(t, shape, z)
		wantScalars(t, fmt.Sprint(x), all(shape.Places, func(place int) fr.El { return laid[place] }), z)
		for _, place := range shape.Places {
			laid[place] = fr.El{}
		}
		wantScalars(t, fmt.Sprint(x, ", what is left"), laid, make([]fr.El, shape.N))
	}
}

// Entries come back too: each one's column is that whose place it has.
func TestEntriesComeBack(t *testing.T) {
	s := numbers{state: 27}
	for _, x := range append(sketches(), greatSketches()...) {
		c := s.drawn(x)
		shape := padOf(t, c)
		for k, m := range matrices(&c) {
			back := slices.Clone(shape.Rows[k])
			for i := range back {
				back[i].Col = uint32(slices.Index(shape.Places, int(back[i].Col)))
			}
			slices.SortFunc(back, func(a, b api.Entry) int {
				return (int(a.Row)-int(b.Row))*2000 + int(a.Col) - int(b.Col)
			})
			if !slices.Equal(back, *m) {
				t.Errorf("%v: the matrix %d is %v, not %v", x, k, back, *m)
			}
		}
	}
}

// Sums and what is laid go out over sums and multiples of assignments.
func TestLinear(t *testing.T) {
	s := numbers{state: 28}
	for _, x := range sketches() {
		shape := padOf(t, s.drawn(x))
		y, z, k := els(s.list(x.cols)), els(s.list(x.cols)), el(s.big())
		both := slices.Clone(y)
		for i := range both {
			both[i] = y[i].Mul(k).Add(z[i])
		}
		join := func(a, b []fr.El) (l []fr.El) {
			for i := range a {
				l = append(l, a[i].Mul(k).Add(b[i]))
			}
			return l
		}
		a, b := spread(t, shape, y), spread(t, shape, z)
		wantScalars(t, fmt.Sprint(x), spread(t, shape, both), join(a, b))
		for i := range 3 {
			wantScalars(t, fmt.Sprint(x, i), applied(t, shape, i, join(a, b)), join(applied(t, shape, i, a), applied(t, shape, i, b)))
		}
	}
}
