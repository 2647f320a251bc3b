package decide_test

import (
	"math/big"
	"runtime"
	"slices"
	"sync"
	"testing"

	"marlinspike/api"
	"marlinspike/decide"
	"marlinspike/fr"
)

// R1 to R8 for this layer's calls.

// edgeSize is a number of any kind, the size of a domain or none.
func (s *numbers) edgeSize() int {
	l := append(noSizes(), 1, 2, 4, 8, 16, 1024, api.MaxDomain)
	return l[s.below(len(l))]
}

// edgeScalar is one at an edge, or any; some are of domains.
func (s *numbers) edgeScalar() *big.Int {
	l := append(wholes(0, 1, -1, 2), elementsOf(8)[3], elementsOf(16)[1], s.big(), s.great())
	return l[s.below(len(l))]
}

// wild is any tale.
func (s *numbers) wild() (x tale) {
	x.z = decide.Sizes{N: s.edgeSize(), X: s.edgeSize(), M: s.edgeSize()}
	if s.below(4) > 0 {
		x.z = decide.Sizes{N: 1 << s.below(7), X: 1 << s.below(5), M: 1 << s.below(7)}
	}
	if x.in = s.list(s.below(20)); s.below(3) > 0 && x.z.X > 0 {
		x.in = x.in[:min(len(x.in), x.z.X)]
	}
	x.a, x.b, x.g = s.edgeScalar(), s.edgeScalar(), s.edgeScalar()
	for i := range x.e {
		x.e[i] = s.edgeScalar()
	}
	for i := range x.l {
		x.l[i] = s.edgeScalar()
	}
	return x
}

// isSize tells whether all are sizes of domains.
func isSize(l ...int) bool {
	return !slices.ContainsFunc(l, func(n int) bool { return !slices.Contains(powersOf2(), n) })
}

// fault is what a tale is refused by, where inputs are asked for.
func (x tale) fault() api.Errno {
	switch {
	case !isSize(x.z.N, x.z.X, x.z.M):
		return api.ErrSize
	case len(x.in) > x.z.X:
		return api.ErrArg
	}
	return api.OK
}

// R1, R4: nothing panics, and beside an error there is nothing; else it is what the words
// tell.
func TestNothingPanics(t *testing.T) {
	s := numbers{state: 80}
	told := map[api.Errno]int{}
	for range 1500 {
		x := s.wild()
		one := x.fault()
		two := one
		if one == api.ErrArg {
			two = api.OK
		}
		told[one]++
		x.refused(t, "wild", one, one, two)
		if one == api.OK && x.z.X <= 64 {
			wantInputs(t, "wild", x.z, x.in, x.b, x.inputs())
			first().want(t, "wild", x, first().holds(x))
			if y, is := first().mended(x, atS); is {
				first().want(t, "wild, mended", y, true)
			}
		}
		if two == api.OK {
			second().want(t, "wild", x, second().holds(x))
			if y, is := second().mended(x, atH2); is {
				second().want(t, "wild, mended", y, true)
			}
		}
	}
	for _, e := range []api.Errno{api.OK, api.ErrSize, api.ErrArg} {
		if told[e] < 100 || len(told) != 3 {
			t.Errorf("too few: %v", told)
		}
	}
}

// answers are what all calls tell, as texts.
func answers(x tale) (l []string) {
	add := func(told ...any) { l = append(l, what(told...)) }
	add(decide.Inputs(x.z, els(x.in), el(x.b)))
	add(decide.Inputs(x.z, els(x.in), el(x.a)))
	for _, q := range both() {
		add(q.asked(x))
		x.b = x.a
		add(q.asked(x))
	}
	return l
}

// R2
func TestAnswersHangOnArgumentsAlone(t *testing.T) {
	s := numbers{state: 81}
	few, more := s.allTrue(t, decide.Sizes{N: 8, X: 4, M: 4}, 3), s.wild()
	one, other := answers(few), answers(more)
	for range 50 {
		answers(s.wild())
		if !slices.Equal(answers(few), one) || !slices.Equal(answers(more), other) {
			t.Error("asked again, it is another one")
		}
	}
}

// What may be asked may be asked by many at once, of the same list.
func TestManyAtOnce(t *testing.T) {
	s := numbers{state: 82}
	x := s.allTrue(t, decide.Sizes{N: 16, X: 8, M: 4}, 7)
	in, e, v := els(x.in), x.three(), x.values()
	wanted, _ := decide.Inputs(x.z, in, el(x.b))
	var workers sync.WaitGroup
	for range 8 {
		workers.Go(func() {
			for range 20 {
				got, _ := decide.Inputs(x.z, in, el(x.b))
				one, _ := decide.First(x.z, in, el(x.a), e, el(x.b), v)
				two, _ := decide.Second(x.z, el(x.a), e, el(x.b), el(x.g), v)
				if got != wanted || !one || !two {
					t.Error("at once, it is another one")
				}
			}
		})
	}
	workers.Wait()
}

// roomy is a list with room behind its end; nobody may touch it.
func roomy(l []fr.El) []fr.El {
	return slices.Concat(l, room())[:len(l)]
}

func room() []fr.El { return els(wholes(9, 0, -8, 7, 0)) }

// untouched tells whether a list made by roomy is as it was, and its room too.
func untouched(l, was []fr.El) bool {
	return len(l) == len(was) && slices.Equal(l[:len(was)+len(room())], slices.Concat(was, room()))
}

// R3: nothing is changed of what is handed in, be it refused or not, and what stands behind
// the inputs' end is none of them.
func TestNothingIsChanged(t *testing.T) {
	s := numbers{state: 83}
	for i := range 600 {
		x := s.wild()
		if i < 300 {
			x = s.any(decide.Sizes{N: 8, X: 1 << (i % 5), M: 4}, i%(1<<(i%5)+1))
			x = first().sure(t, "roomy", x, atH1)
		}
		was, z, e, v := els(x.in), x.z, x.three(), x.values()
		in, times, values := roomy(was), e, v
		got, one := decide.Inputs(x.z, in, el(x.b))
		wanted, fault := decide.Inputs(x.z, was, el(x.b))
		if got != wanted || one != fault || !untouched(in, was) {
			t.Errorf("%d: Inputs: with room behind it is another one, or it was changed: %v, %v", i, one, fault)
		}
		is, two := decide.First(x.z, in, el(x.a), times, el(x.b), values)
		wantedIs, fault := decide.First(x.z, was, el(x.a), e, el(x.b), v)
		if is != wantedIs || two != fault || !untouched(in, was) || i < 300 && !is {
			t.Errorf("%d: First: with room behind it is another one, or it was changed: %v, %v", i, two, fault)
		}
		decide.Second(x.z, el(x.a), times, el(x.b), el(x.g), values)
		if x.z != z || times != e || values != v {
			t.Errorf("%d: what was handed in was changed", i)
		}
	}
}

// R3: nothing is kept: what is written to a list later plays no part in what was told, nor
// in what is told of others.
func TestNothingIsKept(t *testing.T) {
	s := numbers{state: 84}
	for i := range 50 {
		x := s.allTrue(t, decide.Sizes{N: 8, X: 8, M: 2}, 8)
		in, own := els(x.in), els(x.in)
		got, _ := decide.Inputs(x.z, in, el(x.b))
		wanted := got
		decide.First(x.z, in, el(x.a), x.three(), el(x.b), x.values())
		for j := range in {
			in[j] = fr.Of(99)
		}
		again, _ := decide.Inputs(x.z, own, el(x.b))
		is, _ := decide.First(x.z, own, el(x.a), x.three(), el(x.b), x.values())
		other, _ := decide.Inputs(x.z, in, el(x.b))
		if got != wanted || again != wanted || !is || other == wanted {
			t.Errorf("%d: it shows what was written to a list", i)
		}
	}
}

// R6
func TestEmptyListsMayBeNil(t *testing.T) {
	s := numbers{state: 85}
	for _, z := range append(fewSizes(), decide.Sizes{}, decide.Sizes{N: 4, X: 3, M: 2}) {
		x := s.any(decide.Sizes{N: 1, X: 1, M: 1}, 0)
		if x.z = z; x.fault() == api.OK {
			x = first().sure(t, "no inputs", x, atS)
		}
		a, e, b, v := el(x.a), x.three(), el(x.b), x.values()
		got, one := decide.Inputs(z, nil, b)
		wanted, fault := decide.Inputs(z, []fr.El{}, b)
		if got != wanted || got != (fr.El{}) || one != fault || one != x.fault() {
			t.Errorf("%+v: Inputs: nil and empty are not the same: %v, %v", z, one, fault)
		}
		is, two := decide.First(z, nil, a, e, b, v)
		wantedIs, fault := decide.First(z, []fr.El{}, a, e, b, v)
		if is != wantedIs || is != (x.fault() == api.OK) || two != fault || two != x.fault() {
			t.Errorf("%+v: First: nil and empty are not the same: %v, %v", z, two, fault)
		}
	}
}

// R7: scalars are exact, whatever they are: all of the greatest number.
func TestGreatestScalars(t *testing.T) {
	for _, z := range fewSizes() {
		x := tale{z: z, a: minus(1), b: minus(1), g: minus(1), e: [3]*big.Int{minus(1), minus(1), minus(1)}}
		for range min(z.X, 64) {
			x.in = append(x.in, minus(1))
		}
		for i := range x.l {
			x.l[i] = minus(1)
		}
		for _, k := range []*big.Int{minus(1), minus(2), whole(2)} {
			for which := range 8 {
				y := x
				for i, p := range []**big.Int{&y.a, &y.b, &y.g} {
					if which>>i&1 == 1 {
						*p = k
					}
				}
				wantInputs(t, "greatest", z, y.in, y.b, y.inputs())
				for _, q := range both() {
					q.wantMended(t, "greatest", y)
				}
			}
		}
	}
}

// R8: what is refused takes no room that goes by how many inputs there are, or by what they
// are said to be.
func TestRefusedLeavesNoRoom(t *testing.T) {
	s := numbers{state: 86}
	x := s.any(decide.Sizes{N: 4, X: 4, M: 2}, 0)
	a, b, g, e, v := el(x.a), el(x.b), el(x.g), x.three(), x.values()
	in := make([]fr.El, api.MaxDomain+1)
	var before, after runtime.MemStats
	runtime.ReadMemStats(&before)
	for _, n := range noSizes() {
		for which := 1; which < 8; which++ {
			z := sized(x.z, which, n)
			decide.Inputs(z, in, b)
			decide.First(z, in, a, e, b, v)
			decide.Second(z, a, e, b, g, v)
		}
	}
	for _, n := range powersOf2() {
		z := decide.Sizes{N: n, X: n, M: n}
		decide.Inputs(z, in, b)
		decide.First(z, in, a, e, b, v)
	}
	runtime.ReadMemStats(&after)
	if more := after.TotalAlloc - before.TotalAlloc; more > 8<<20 {
		t.Errorf("refused calls took %d bytes", more)
	}
}
