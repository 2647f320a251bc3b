package open_test

import (
	"fmt"
	"math/big"
	"testing"

	"marlinspike/api"
	"marlinspike/commit"
	"marlinspike/fr"
	"marlinspike/group"
	"marlinspike/open"
	"marlinspike/poly"
	"marlinspike/srs"
	"marlinspike/update"
)

// P20.3, and what goes with it: openings go by sums and multiples, as commitments do.

// drawn are setups of some degree, of two scalars and of none.
func drawn(t *testing.T, n int) []*srs.SRS {
	t.Helper()
	s := numbers{state: uint64(20 + n)}
	l := []*srs.SRS{made(t, whole(2), whole(3), n), made(t, minus(1), minus(1), n), made(t, s.big(), s.big(), n)}
	l = append(l, exps{s.bigs(n + 1), s.bigs(n + 1), s.big()}.setup(), exps{zeros(n + 1), s.bigs(n + 1), whole(0)}.setup())
	return append(l, other(l[2], n))
}

// byEach asks something of setups of the degrees 1 to 4, with numbers of its own for each.
func byEach(t *testing.T, ask func(what string, o *srs.SRS, s *numbers)) {
	t.Helper()
	for n := 1; n < 5; n++ {
		setups := drawn(t, n)
		together(len(setups), func(i int) {
			ask(fmt.Sprintf("of the degree %d, %d", n, i), setups[i], &numbers{state: uint64(100*n + i)})
		})
	}
}

// V and B are what the polynomials are worth; by scalars, W (t - z) is what their worths
// at t and at z stand apart by, the blinding one's g times.
func TestOpeningsByWorths(t *testing.T) {
	s := numbers{state: 21}
	for n := 1; n < 6; n++ {
		tau, g, z := el(s.big()), el(s.big()), el(s.big())
		o, across := made(t, back(tau), back(g), n), tau.Sub(z)
		for i, p := range polys(some(n + 1)) {
			b := els(s.bigs(s.below(n + 2)))
			what := fmt.Sprintf("of the degree %d, %d", n, i)
			apart := func(p []fr.El) fr.El { return poly.Eval(p, tau).Sub(poly.Eval(p, z)) }
			got := opened(t, what, o, p, b, z)
			wantEl(t, what+": V", got.V, back(poly.Eval(p, z)))
			wantEl(t, what+": B", got.B, back(poly.Eval(b, z)))
			wantSame(t, what+": W", group.Mul1(got.W, across), group.Mul1(gen, apart(p).Add(g.Mul(apart(b)))))
			less := poly.Sub(p, []fr.El{got.V})
			quotient, rest, _ := poly.DivMod(less, []fr.El{z.Neg(), fr.Of(1)})
			blind, none, _ := poly.DivMod(poly.Sub(b, []fr.El{got.B}), []fr.El{z.Neg(), fr.Of(1)})
			wantSame(t, what+": W is a commitment", got.W, committed(t, what, o, quotient, blind))
			if len(rest)+len(none) > 0 {
				t.Errorf("%s: rests", what)
			}
		}
	}
}

// The opening of what was committed to holds, at any place.
func TestWhatWasCommittedToIsOpened(t *testing.T) {
	var l []question
	for n := 1; n < 5; n++ {
		s := numbers{state: uint64(30 + n)}
		for i, pair := range [][2]*big.Int{{whole(2), whole(3)}, {minus(1), minus(1)}, {s.big(), s.big()}} {
			o, x, zs := made(t, pair[0], pair[1], n), expsOf(pair[0], pair[1], n), places(pair[0])
			for j := range 6 {
				p, b, z := s.bigs(s.below(n+2)), s.bigs(s.below(n+2)), zs[(i*6+j)%len(zs)]
				what := fmt.Sprintf("of %v and %v at %v by %v", p, b, z, pair)
				c, got := committed(t, what, o, els(p), els(b)), opened(t, what, o, els(p), els(b), el(z))
				l = append(l, question{what, o, c, el(z), got, true})
				if k := (opens{x.commitment(p, b), z, x.opening(p, b, z)}); !k.equal(pair[0], pair[1]) {
					t.Errorf("%s: the model", what)
				}
			}
		}
	}
	wantAnswers(t, l)
}

// plusOpening is the sum of two openings.
func plusOpening(o, other open.Opening) open.Opening {
	return open.Opening{V: o.V.Add(other.V), B: o.B.Add(other.B), W: group.Curve1().Add(o.W, other.W)}
}

// timesOpening is a multiple of one.
func timesOpening(o open.Opening, k fr.El) open.Opening {
	return open.Opening{V: o.V.Mul(k), B: o.B.Mul(k), W: group.Mul1(o.W, k)}
}

func TestOpeningsGoBySums(t *testing.T) {
	byEach(t, func(what string, o *srs.SRS, s *numbers) {
		l := polys(some(o.Degree() + 1))
		for j, p := range l {
			q, b, d, z := l[(j*5+2)%len(l)], l[(j*3+1)%len(l)], l[(j*7+2)%len(l)], el(s.big())
			what := fmt.Sprint(what, ", ", j)
			first, second := opened(t, what, o, p, b, z), opened(t, what, o, q, d, z)
			sum := opened(t, what, o, poly.Add(p, q), poly.Add(b, d), z)
			wantAlike(t, what+": the sum", sum, plusOpening(first, second))
			difference := opened(t, what, o, poly.Sub(p, q), poly.Sub(b, d), z)
			wantAlike(t, what+": the difference", difference, plusOpening(first, timesOpening(second, fr.Of(-1))))
			k := el(s.big())
			wantAlike(t, what+": the multiple", opened(t, what, o, poly.Scale(p, k), poly.Scale(b, k), z), timesOpening(first, k))
			wantAlike(t, what+": less itself", opened(t, what, o, poly.Sub(p, p), poly.Sub(b, b), z), open.Opening{})
			wantAlike(t, what+": both apart", plusOpening(opened(t, what, o, p, nil, z), opened(t, what, o, nil, b, z)), first)
		}
	})
}

// What openings leave goes by sums too, at one place.
func TestLeftGoesBySums(t *testing.T) {
	c := group.Curve1()
	byEach(t, func(what string, o *srs.SRS, s *numbers) {
		answers := drawnAnswers()
		for j, a := range answers {
			z, k := el(s.big()), el(s.big())
			one, two := a.opening(), answers[(j*5+3)%len(answers)].opening()
			p, q := told.tell(whole(int64(j))), told.tell(whole(int64(7-j)))
			what := fmt.Sprint(what, ", ", j)
			first, second := left(t, what, o, p, z, one), left(t, what, o, q, z, two)
			wantSame(t, what+": the sum", left(t, what, o, c.Add(p, q), z, plusOpening(one, two)), c.Add(first, second))
			wantSame(t, what+": the multiple", left(t, what, o, group.Mul1(p, k), z, timesOpening(one, k)), group.Mul1(first, k))
			wantSame(t, what+": of the far one", c.Add(left(t, what, o, group.G1{}, z, one), p), first)
			wantSame(t, what+": at 0, and W", c.Add(left(t, what, o, p, fr.El{}, one), group.Mul1(one.W, z)), first)
		}
	})
}

// parts are several openings at one place, and what they are of.
type parts struct {
	cs, ws []group.G1
	vs, bs []fr.El
}

// folded are their folds: of the commitments, and of all that the openings have.
func (l parts) folded(x fr.El) (group.G1, open.Opening) {
	return commit.Fold(l.cs, x), open.Opening{V: commit.FoldEl(l.vs, x), B: commit.FoldEl(l.bs, x), W: commit.Fold(l.ws, x)}
}

// Folds of openings at one place are openings of folds, and hold of folds of commitments;
// of one fault among them they do not.
func TestFoldsOfOpenings(t *testing.T) {
	var l []question
	for n := 1; n < 5; n++ {
		s := numbers{state: uint64(40 + n)}
		o := made(t, s.big(), s.big(), n)
		for many := range 5 {
			var ps, bs [][]fr.El
			var all parts
			z := el(s.big())
			what := fmt.Sprintf("%d of the degree %d", many, n)
			for range many {
				p, b := els(s.bigs(s.below(n+2))), els(s.bigs(s.below(n+2)))
				got := opened(t, what, o, p, b, z)
				ps, bs = append(ps, p), append(bs, b)
				all.cs, all.vs = append(all.cs, committed(t, what, o, p, b)), append(all.vs, got.V)
				all.bs, all.ws = append(all.bs, got.B), append(all.ws, got.W)
			}
			for _, x := range []fr.El{{}, fr.Of(1), el(s.big())} {
				what := fmt.Sprint(what, " by ", back(x))
				c, got := all.folded(x)
				wantAlike(t, what, got, opened(t, what, o, commit.FoldPoly(ps, x), commit.FoldPoly(bs, x), z))
				l = append(l, question{what, o, c, z, got, true})
			}
			if many > 0 {
				i, x := s.below(many), el(s.big())
				all.vs[i] = all.vs[i].Add(fr.Of(1))
				c, got := all.folded(x)
				l = append(l, question{what + ", with a fault", o, c, z, got, false})
			}
		}
	}
	wantAnswers(t, l)
}

// A shifted commitment is opened by what the polynomial is worth, times z^(D - d), as the
// product with Z^(D - d) is.
func TestShiftedOnesAreOpened(t *testing.T) {
	var l []question
	s := numbers{state: 50}
	for n := 1; n < 4; n++ {
		o := made(t, s.big(), s.big(), n)
		for d := range n + 1 {
			p, z := els(s.bigs(d+1)), el(s.big())
			what := fmt.Sprintf("by the bound %d of %d", d, n)
			c, e := commit.Shifted(o, p, d)
			moved, wrong := poly.Shift(p, n-d)
			if e != api.OK || wrong != api.OK {
				t.Fatal(e, wrong)
			}
			got := opened(t, what, o, moved, nil, z)
			wantEl(t, what, got.V, times(back(poly.Eval(p, z)), raised(back(z), n-d)))
			l = append(l, question{what, o, c, z, got, true})
		}
	}
	wantAnswers(t, l)
}

// By a trimmed setup openings are the same ones, and hold by either one.
func TestTrimmedSetups(t *testing.T) {
	s := numbers{state: 51}
	long := made(t, s.big(), s.big(), 5)
	var l []question
	for n := 1; n < 5; n++ {
		short, e := long.Trim(n)
		if e != api.OK {
			t.Fatal(e)
		}
		for i, p := range polys(some(n + 1)) {
			what := fmt.Sprintf("of %d, %d", n, i)
			b, z := els(s.bigs(s.below(n+2))), el(s.big())
			got := opened(t, what, short, p, b, z)
			wantAlike(t, what, got, opened(t, what, long, p, b, z))
			if i%6 == 0 {
				c := committed(t, what, short, p, b)
				l = append(l, question{what, short, c, z, got, true}, question{what + ", by the long one", long, c, z, got, true})
			}
		}
	}
	wantAnswers(t, l)
}

// What was updated opens what is committed to by it, and not what was before.
func TestUpdatedSetups(t *testing.T) {
	s := numbers{state: 52}
	before := made(t, s.big(), s.big(), 3)
	after, _, e := update.Update(before, el(s.big()))
	if e != api.OK {
		t.Fatal(e)
	}
	var l []question
	for i := range 3 {
		p, b, z := els(s.bigs(4)), els(s.bigs(2)), el(s.big())
		what := fmt.Sprint("the opening ", i)
		old, late := committed(t, what, before, p, b), committed(t, what, after, p, b)
		first, second := opened(t, what, before, p, b, z), opened(t, what, after, p, b, z)
		l = append(l, question{what, after, late, z, second, true}, question{what + ", by the old one", before, late, z, second, false})
		l = append(l, question{what + ", of the old one", after, old, z, second, false}, question{what + ", an old one", after, late, z, first, false})
	}
	wantAnswers(t, l)
}

// An opening at one place is none at another one, unless both polynomials are constants;
// and two that hold at one place, of one commitment and with one B and one W, have one V.
func TestOtherPlaces(t *testing.T) {
	s := numbers{state: 53}
	o := made(t, s.big(), s.big(), 3)
	var l []question
	for n := range 4 {
		p, b, z := els(s.bigs(n+1)), els(s.bigs(1)), el(s.big())
		what := fmt.Sprint("of the degree ", n)
		c, got := committed(t, what, o, p, b), opened(t, what, o, p, b, z)
		for _, y := range []fr.El{{}, z.Add(fr.Of(1)), z.Neg(), el(s.big())} {
			l = append(l, question{what, o, c, y, got, n == 0})
		}
		got.V = el(s.big())
		l = append(l, question{what + ", with another V", o, c, z, got, false})
	}
	wantAnswers(t, l)
}
