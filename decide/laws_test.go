package decide_test

import (
	"math/big"
	"slices"
	"testing"

	"marlinspike/api"
	"marlinspike/domain"
	"marlinspike/fr"
	"marlinspike/poly"
	"marlinspike/rounds"
)

// P26.3

// wantBoth fails if not both equations hold, and just where what another value is multiplied
// by is 0, of that too.
func wantBoth(t *testing.T, what string, x tale) {
	t.Helper()
	for _, q := range both() {
		q.want(t, what, x, true)
		q.wantAll(t, what, x)
	}
}

// offPlaces are scalars that are not of the domain of n: 0, such as are near to it, and any.
func (s *numbers) offPlaces(n int) []*big.Int {
	return append(wholes(0, 2, -5), elementsOf(2 * n)[1], s.off(n), s.great())
}

// thirdPlaces are some for the third round: of K, of H, 0, 1, r - 1, a, b, and any.
func (s *numbers) thirdPlaces(x proved) []*big.Int {
	k, h := elementsOf(x.s.M), elementsOf(x.s.N)
	l := append(wholes(0, 1, -1), x.a, x.b, h[s.below(x.s.N)], s.great(), s.big())
	return append(l, k[:min(4, x.s.M)]...)
}

// Of what is satisfied both equations hold, whatever the draws, e, a and b, at each g.
func TestLaws(t *testing.T) {
	s := numbers{state: 100}
	for i, sketch := range sketches() {
		x := s.satisfied(t, sketch)
		for j, draws := range s.manyDraws(x) {
			for l, e := range s.manyScalars() {
				if (i+j+l)%5 > 0 {
					continue
				}
				p := x.proved(t, draws, s.off(x.s.N), s.off(x.s.N), e)
				for m, g := range s.thirdPlaces(p) {
					y := p.at(g)
					for _, q := range both() {
						q.want(t, what("satisfied ", i, j, l, m), y, true)
					}
					if m < 2 {
						wantBoth(t, what("satisfied ", i, j, l, m), y)
					}
				}
			}
		}
	}
}

// The examples, at several a and b, which may be alike, 0 or near to H.
func TestLawsAtPlaces(t *testing.T) {
	s := numbers{state: 101}
	for i, x := range examples(t) {
		for _, a := range s.offPlaces(x.s.N) {
			for _, b := range append(s.offPlaces(x.s.N), a) {
				p := x.proved(t, s.draws(x), a, b, s.triple())
				for _, g := range s.thirdPlaces(p) {
					for _, q := range both() {
						q.want(t, what("example ", i, " at ", a, ", ", b, ", ", g), p.at(g), true)
					}
				}
				wantBoth(t, what("example ", i, " at ", a, ", ", b), p.at(s.great()))
			}
		}
	}
}

// An assignment that is 1 and nothing else satisfies what it makes of C.
func TestLawsOfOneAlone(t *testing.T) {
	s := numbers{state: 102}
	for i, sketch := range sketches() {
		z := append(wholes(1), zeros(sketch.cols-1)...)
		x := laidOf(t, s.satisfiable(sketch, z), z)
		p := x.proved(t, s.draws(x), s.off(x.s.N), s.off(x.s.N), s.triple())
		wantBoth(t, what("one alone ", i), p.at(s.great()))
	}
}

// The greatest circuit, and such as are near to it.
func TestLawsOfGreatOnes(t *testing.T) {
	s := numbers{state: 103}
	for i, sketch := range []sketch{{100, 70, 17, 256, 300, 90}, {1, 1024, 1, 700, 512, 1}, {1024, 1024, 600, 4096, 4095, 2049}} {
		x := s.satisfied(t, sketch)
		p := x.proved(t, s.draws(x), s.great(), s.great(), s.triple())
		y := p.at(s.great())
		for _, q := range both() {
			q.want(t, what("great ", i), y, true)
			for _, place := range q.parts {
				q.want(t, what("great ", i, ", another ", named(place)), y.but(place, s.great()), false)
			}
		}
		y.in = slices.Clone(y.in)
		last := len(y.in) - 1
		y.in[last] = plus(y.in[last], whole(1))
		first().want(t, what("great ", i, ", another input"), y, false)
	}
}

// Each place of both equations is multiplied by something else than 0 where the circuit is
// an example, so no other value but T may stand there; and another T breaks both.
func TestNoOtherValue(t *testing.T) {
	s := numbers{state: 104}
	for i, x := range examples(t) {
		for range 10 {
			y := x.proved(t, s.draws(x), s.great(), s.great(), s.triple()).at(s.great())
			for _, q := range both() {
				for _, place := range q.parts {
					for _, k := range []*big.Int{whole(0), plus(y.l[place], whole(1)), plus(y.l[place], minus(1)), s.great()} {
						q.want(t, what("example ", i, ", another ", named(place)), y.but(place, k), same(k, y.l[place]))
					}
				}
			}
		}
	}
}

// Where what a value is multiplied by is 0, any may stand there.
func TestAnyOtherValueByZero(t *testing.T) {
	s := numbers{state: 105}
	none := whole(0)
	for i, x := range examples(t) {
		for j, o := range []struct {
			q    equation
			e    [3]*big.Int
			b, g *big.Int
			none []int
		}{
			{first(), [3]*big.Int{none, whole(3), none}, s.great(), s.great(), []int{atA}},
			{first(), [3]*big.Int{whole(3), none, none}, s.great(), s.great(), []int{atB}},
			{first(), [3]*big.Int{none, none, none}, s.great(), s.great(), []int{atA, atB, atW}}, // T is 0, too
			{first(), s.triple(), none, s.great(), []int{atG1}},
			{second(), [3]*big.Int{none, whole(3), none}, s.great(), s.great(), []int{atVal, atVal + 2}},
			{second(), [3]*big.Int{whole(5), none, whole(3)}, s.great(), s.great(), []int{atVal + 1}},
			{second(), s.triple(), s.great(), none, []int{atG2}},
			{second(), s.triple(), s.great(), elementsOf(x.s.M)[1], []int{atH2}},
		} {
			y := x.proved(t, s.draws(x), s.great(), o.b, o.e).at(o.g)
			o.q.want(t, what("example ", i, j), y, true)
			for _, place := range o.none {
				for range 3 {
					o.q.want(t, what("example ", i, j, ", another ", named(place)), y.but(place, s.great()), true)
				}
			}
			o.q.wantAll(t, what("example ", i, j), y)
		}
	}
}

// Of other inputs the first equation fails where they are worth something else at b.
func TestOtherInputs(t *testing.T) {
	s := numbers{state: 106}
	for i, sketch := range append(sketches(), []sketch{{4, 9, 8, 5, 5, 5}, {20, 16, 16, 20, 20, 20}}...) {
		x := s.satisfied(t, sketch)
		p := x.proved(t, s.draws(x), s.off(x.s.N), s.off(x.s.N), s.triple())
		y := p.at(s.great())
		plays := y.l[atT].Sign() != 0
		for j := range y.in {
			z := y
			z.in = slices.Clone(y.in)
			z.in[j] = plus(z.in[j], s.big())
			first().want(t, what("another input ", i, j), z, !plays)
			second().want(t, what("another input ", i, j), z, true)
			z.in = y.in[:j]
			short := slices.ContainsFunc(y.in[j:], func(k *big.Int) bool { return k.Sign() != 0 })
			first().want(t, what("inputs left out ", i, j), z, !plays || !short)
		}
		if len(y.in) < y.z.X {
			z := y
			z.in = append(slices.Clone(y.in), zeros(y.z.X-len(y.in))...)
			first().want(t, what("zeros behind ", i), z, true)
			z.in[y.z.X-1] = whole(1)
			first().want(t, what("one behind ", i), z, !plays)
		}
		z, k := y, s.big() // a polynomial that is 0 at b
		z.in = nil
		for j, h := range elementsOf(y.z.X) {
			input := whole(0)
			if j < len(y.in) {
				input = y.in[j]
			}
			z.in = append(z.in, plus(input, times(k, less(h, y.b))))
		}
		if y.z.X > 1 {
			first().want(t, what("the same at b ", i), z, true)
		}
	}
}

// Of what is not satisfied Q's rest has a scalar of 1, so that no G1 goes with it: whatever
// H1 of its degree is put, the first equation holds at fewer than 3 N + 1 places.
func TestWhatIsNotSatisfied(t *testing.T) {
	s := numbers{state: 107}
	x := laidOf(t, square(), wholes(1, 8, 3))
	h, _ := domain.New(4)
	a, e := s.great(), s.triple()
	times := [3]fr.El(els(e[:]))
	p, _ := rounds.One(x.s, x.z, els(s.draws(x)))
	if _, fault := rounds.Two(x.x, p, el(a), times); fault != api.ErrCheck {
		t.Fatalf("it is satisfied: %v", fault)
	}
	sum, _ := x.x.Poly(times, el(a))
	for range 10 {
		places := make([]fr.El, 8)
		for i := range places {
			places[i] = el(s.great())
		}
		y := proved{laid: x, a: a, e: e, p: p, q: rounds.Second{T: sum, G: els(s.list(3))}}
		var wanted []fr.El // what H1 is worth at the places, so that it holds there
		for _, b := range places {
			y.b = back(b)
			wanted = append(wanted, el(first().sure(t, "not satisfied", y.at(whole(2)), atH1).l[atH1]))
		}
		y.q.H, _ = poly.Points(places, wanted)
		told := 0
		for i := range 60 {
			b := fr.Of(int64(i))
			if i < len(places) {
				b = places[i]
			} else if i < len(places)+4 {
				b = h.At(i)
			}
			y.b = back(b)
			is := first().holds(y.at(whole(2)))
			first().want(t, what("not satisfied ", i), y.at(whole(2)), is)
			if is {
				told++
			}
			if i < len(places) && !is {
				t.Errorf("%d: it does not hold where H1 was put right", i)
			}
		}
		if told > 12 {
			t.Errorf("it holds at %d places", told)
		}
	}
}

// nearlyAll fails if the second equation, which fails at one g, does not fail at all these
// but fewer than the scalars of its sides; it tells at how many it holds.
func nearlyAll(t *testing.T, what string, x proved, gs []*big.Int) (holds int) {
	t.Helper()
	scalars := x.scalars(t)
	slices.SortFunc(gs, (*big.Int).Cmp)
	gs = slices.CompactFunc(gs, same)
	for _, g := range gs {
		is, e := second().asked(x.at(g))
		if e != api.OK || is != second().holds(x.at(g)) {
			t.Errorf("%s at %v: %v, %v", what, g, is, e)
		}
		if is {
			holds++
		}
	}
	if holds >= scalars && len(gs) > holds {
		t.Errorf("%s: of %d scalars it holds at %d", what, scalars, holds)
	}
	return holds
}

// An H2 that is another one by a polynomial that is 0 at some places: the second equation
// holds just there, and on K.
func TestAnotherH(t *testing.T) {
	s := numbers{state: 108}
	for i, x := range examples(t) {
		for roots := range 6 {
			p := x.proved(t, s.draws(x), s.great(), s.great(), s.triple())
			apart, gs := els(wholes(3)), elementsOf(x.s.M)
			for range roots {
				root := s.great()
				apart = poly.Mul(apart, []fr.El{el(root).Neg(), fr.Of(1)})
				gs = append(gs, root)
			}
			p.o.H = poly.Add(p.o.H, apart)
			zeros := len(gs)
			for n := range int64(40) {
				gs = append(gs, whole(n+2))
			}
			if holds := nearlyAll(t, what("example ", i, ", ", roots, " roots"), p, gs); holds != zeros {
				t.Errorf("example %d: it holds at %d places, not %d", i, holds, zeros)
			}
		}
	}
}

// Each other polynomial, another one by one scalar of it, or of more than it has.
func TestAnotherPolynomial(t *testing.T) {
	s := numbers{state: 109}
	for i, x := range examples(t) {
		for j := range 11 {
			for _, higher := range []int{0, 1, 3, 12} {
				p := x.proved(t, s.draws(x), s.great(), s.great(), s.triple())
				more, _ := poly.Shift([]fr.El{el(s.big())}, higher)
				l := p.inThird()[j]
				*l = poly.Add(*l, more)
				gs := elementsOf(x.s.M)
				for n := range int64(60) {
					gs = append(gs, whole(n))
				}
				if holds := nearlyAll(t, what("example ", i, ", ", named(atRow+j)), p, gs); holds == len(gs) {
					t.Errorf("example %d, %s: it holds everywhere", i, named(atRow+j))
				}
			}
		}
	}
}

// Polynomials of any scalars, with an H2 that is such that the second equation holds at as
// many places as there is room for: there it does, and at no others but as many as K has.
func TestAnyPolynomials(t *testing.T) {
	s := numbers{state: 110}
	for i := range 40 {
		p := proved{laid: examples(t)[i%2], a: s.off(8), b: s.off(8), e: s.triple()}
		for _, l := range p.inThird() {
			*l = els(s.list(s.below(5)))
		}
		p.q.T, p.o.H = els(s.list(3)), nil
		var gs []*big.Int
		for range s.below(12) {
			gs = append(gs, s.off(p.s.M))
		}
		slices.SortFunc(gs, (*big.Int).Cmp)
		gs = slices.CompactFunc(gs, same)
		var wanted []fr.El
		for _, g := range gs {
			wanted = append(wanted, el(second().sure(t, "any", p.at(g), atH2).l[atH2]))
		}
		p.o.H, _ = poly.Points(els(gs), wanted)
		for _, g := range gs {
			second().want(t, what("any ", i, ", put right"), p.at(g), true)
		}
		for n := range int64(50) {
			gs = append(gs, whole(-n-400), s.great())
		}
		nearlyAll(t, what("any ", i), p, append(gs, elementsOf(p.s.M)...))
	}
}
