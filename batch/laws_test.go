package batch_test

import (
	"fmt"
	"math/big"
	"slices"
	"testing"

	"marlinspike/api"
	"marlinspike/batch"
	"marlinspike/commit"
	"marlinspike/fr"
	"marlinspike/group"
	"marlinspike/open"
	"marlinspike/poly"
	"marlinspike/srs"
	"marlinspike/update"
)

// P21.3, and what goes with it.

// asks tells whether claims hold together.
func asks(t *testing.T, what string, s *srs.SRS, l []batch.Claim, x fr.El) bool {
	t.Helper()
	is, e := batch.Check(s, l, x)
	if e != api.OK {
		t.Errorf("%s: %v", what, e)
	}
	return is
}

// Claims that hold, each by itself, hold together at each x.
func TestWhatHoldsHoldsTogether(t *testing.T) {
	xs := bys()
	var l []question
	for n := 1; n < 4; n++ {
		s := numbers{state: uint64(40 + n)}
		o := made(t, s.big(), s.big(), n)
		var all []batch.Claim
		for range 2 + n {
			all = append(all, claimed(t, "drawn", o, s.bigs(s.below(n+2)), s.bigs(s.below(n+2)), s.big()))
		}
		for i, a := range all {
			if is, e := open.Check(o, a.C, a.Z, a.O); !is || e != api.OK {
				t.Errorf("%d of %d by itself: %v, %v", i, n, is, e)
			}
		}
		for i, x := range xs {
			l = append(l, question{fmt.Sprintf("%d at %v", n, x), o, all[:1+i%len(all)], el(x), true})
		}
	}
	wantAnswers(t, l)
}

// Of claims one of which does not hold they hold together at fewer x than there are
// claims: at as many as there are but one, if it is so chosen, and at no further ones.
func TestFewerThanThereAreClaims(t *testing.T) {
	s := numbers{state: 50}
	for n := 1; n < 6; n++ {
		x := expsOf(s.big(), s.big(), 1)
		all, roots := x.heldBy(&s, n), s.bigs(n-1)
		for i, k := range product(s.big(), roots...) {
			all = x.lack(all, i, partNames()[(i+n)%5], k)
		}
		one := x.lack(x.heldBy(&s, n), n-1, partNames()[n-1], s.big())
		asked := slices.Concat(roots, bys())
		set, l, single := x.setup(), claims(all), claims(one)
		both, lone := make([]bool, len(asked)), make([]bool, len(asked))
		together(len(asked), func(i int) {
			both[i] = asks(t, "by roots", set, l, el(asked[i]))
			lone[i] = asks(t, "the last one faulty", set, single, el(asked[i]))
		})
		if slices.Contains(both[:n-1], false) || slices.Contains(both[n-1:], true) {
			t.Errorf("%d claims, by roots: %v", n, both)
		}
		for i, is := range lone {
			if is != (n > 1 && mod(asked[i]).Sign() == 0) {
				t.Errorf("%d claims, the last one faulty, at %v: %v", n, asked[i], is)
			}
		}
	}
}

// Claims of which the first does not hold, and no other one is off, hold together at none.
func TestTheFirstFaulty(t *testing.T) {
	s := numbers{state: 51}
	var l []question
	for i, name := range partNames() {
		x := expsOf(s.big(), s.big(), 1)
		all := off(x.heldBy(&s, 1+i), 0, name, s.big())
		for _, by := range []*big.Int{whole(0), whole(1), whole(-1), s.big()} {
			l = append(l, ask(fmt.Sprintf("%s at %v", name, by), x, all, by))
		}
	}
	hold(t, l, 0)
	wantAnswers(t, l)
}

// atOnePlace are openings of several polynomials at one place.
func atOnePlace(t *testing.T, s *srs.SRS, source *numbers, many int, z *big.Int) (ps, bs [][]fr.El, l []batch.Claim) {
	t.Helper()
	for range many {
		p, b := source.bigs(source.below(s.Degree()+2)), source.bigs(source.below(s.Degree()+2))
		ps, bs = append(ps, els(p)), append(bs, els(b))
		l = append(l, claimed(t, "at one place", s, p, b, z))
	}
	return ps, bs, l
}

// Openings at one place that hold are joined into a claim that holds: the opening of the
// polynomials' folds, of the commitment to them. With a fault among them it does not.
func TestJoinedOnesHold(t *testing.T) {
	var l []question
	for n := 1; n < 4; n++ {
		s := numbers{state: uint64(60 + n)}
		o := made(t, s.big(), s.big(), n)
		for many := range 5 {
			z := s.big()
			ps, bs, all := atOnePlace(t, o, &s, many, z)
			cs, os := parted(all)
			for i, x := range []fr.El{{}, fr.Of(1), fr.Of(-1), el(s.big())} {
				what := fmt.Sprintf("%d of the degree %d, %d", many, n, i)
				got := joined(t, what, el(z), cs, os, x)
				wanted := claimed(t, what, o, backs(commit.FoldPoly(ps, x)), backs(commit.FoldPoly(bs, x)), z)
				wantAlike(t, what, got, wanted)
				wantAlike(t, what+", of the folds", got, batch.Claim{C: commit.Fold(cs, x), Z: el(z), O: got.O})
				if is, e := open.Check(o, got.C, got.Z, got.O); !is || e != api.OK {
					t.Errorf("%s: by itself %v, %v", what, is, e)
				}
				l = append(l, question{what, o, []batch.Claim{got}, el(s.big()), true})
				if many > 0 {
					at := s.below(many)
					faulty := slices.Clone(os)
					faulty[at].V = faulty[at].V.Add(fr.Of(1))
					bad := joined(t, what, el(z), cs, faulty, x)
					l = append(l, question{what + ", with a fault", o, []batch.Claim{bad}, el(s.big()), at > 0 && x.IsZero()})
				}
			}
		}
	}
	wantAnswers(t, l)
}

// Claims at one place hold together at x just if what they are joined into by x holds.
func TestJoinedOrTogether(t *testing.T) {
	s := numbers{state: 70}
	x := expsOf(s.big(), s.big(), 1)
	set := x.setup()
	var l []question
	for n := range 5 {
		z := s.big()
		var all []claim
		for range n {
			all = append(all, x.held(claim{z: z, v: s.big(), b: s.big(), w: s.big()}))
		}
		lists := [][]claim{all}
		roots := s.bigs(max(0, n-1))
		for i, k := range product(s.big(), roots...) {
			if n > 0 {
				all = x.lack(all, i, []string{"c", "v", "b", "w"}[i%4], k)
			}
		}
		for i, some := range append(lists, all) {
			for j, by := range append(slices.Clone(roots), whole(0), whole(1), s.big()) {
				what := fmt.Sprintf("%d, %d at %d", n, i, j)
				is := i == 0 || n == 0 || j < len(roots)
				l = append(l, ask(what, x, some, by), question{what + ", joined", set, []batch.Claim{joinedOf(t, what, z, some, by)}, el(s.big()), is})
				if x.hold(some, by) != is {
					t.Errorf("%s: the model", what)
				}
			}
		}
	}
	wantAnswers(t, l)
}

// Openings at two places, those of each joined by one scalar, and both claims held
// together by another one: as a verifier asks.
func TestJoinedOnesTogether(t *testing.T) {
	s := numbers{state: 71}
	var l []question
	for n := 1; n < 4; n++ {
		o := made(t, s.big(), s.big(), n)
		first, second := s.big(), s.big()
		_, _, here := atOnePlace(t, o, &s, 4, first)
		_, _, there := atOnePlace(t, o, &s, 3, second)
		for i, l2 := range [][2][]batch.Claim{{here, there}, {faulted(here, 3, "v"), there}, {here, faulted(there, 0, "w")}, {faulted(here, 1, "b"), faulted(there, 2, "c")}} {
			what, by, x := fmt.Sprintf("of the degree %d, %d", n, i), el(s.big()), el(s.big())
			cs, os := parted(l2[0])
			one := joined(t, what, el(first), cs, os, by)
			cs, os = parted(l2[1])
			two := joined(t, what, el(second), cs, os, by)
			l = append(l, question{what, o, []batch.Claim{one, two}, x, i == 0}, question{what + ", turned", o, []batch.Claim{two, one}, x, i == 0})
		}
	}
	wantAnswers(t, l)
}

// faulted are the same claims, but for a part of the i-th one.
func faulted(l []batch.Claim, i int, name string) []batch.Claim {
	l = slices.Clone(l)
	switch a := &l[i]; name {
	case "c":
		a.C = group.Curve1().Add(a.C, gen)
	case "v":
		a.O.V = a.O.V.Add(fr.Of(1))
	case "b":
		a.O.B = a.O.B.Add(fr.Of(1))
	case "w":
		a.O.W = group.Curve1().Add(a.O.W, gen)
	}
	return l
}

// Joined in parts, the parts by x^2 and the pairs by x, it is the same; so are sums and
// multiples of all parts.
func TestJoinsGoBySums(t *testing.T) {
	s, c := numbers{state: 72}, group.Curve1()
	for i := range 4 {
		what := fmt.Sprint("the join ", i)
		cs, os := parted(claims(drawn(&s, 4)))
		ds, qs := parted(claims(drawn(&s, 4)))
		z, x, k := el(s.big()), el(s.big()), el(s.big())
		first, second := joined(t, what, z, cs, os, x), joined(t, what, z, ds, qs, x)
		var sums, often []group.G1
		var sumsOf, oftenOf []open.Opening
		for j := range cs {
			sums, often = append(sums, c.Add(cs[j], ds[j])), append(often, group.Mul1(cs[j], k))
			sumsOf = append(sumsOf, open.Opening{V: os[j].V.Add(qs[j].V), B: os[j].B.Add(qs[j].B), W: c.Add(os[j].W, qs[j].W)})
			oftenOf = append(oftenOf, open.Opening{V: os[j].V.Mul(k), B: os[j].B.Mul(k), W: group.Mul1(os[j].W, k)})
		}
		sum := open.Opening{V: first.O.V.Add(second.O.V), B: first.O.B.Add(second.O.B), W: c.Add(first.O.W, second.O.W)}
		wantAlike(t, what+": the sum", joined(t, what, z, sums, sumsOf, x), batch.Claim{C: c.Add(first.C, second.C), Z: z, O: sum})
		times := open.Opening{V: first.O.V.Mul(k), B: first.O.B.Mul(k), W: group.Mul1(first.O.W, k)}
		wantAlike(t, what+": the multiple", joined(t, what, z, often, oftenOf, x), batch.Claim{C: group.Mul1(first.C, k), Z: z, O: times})
		one, two := joined(t, what, z, cs[:2], os[:2], x), joined(t, what, z, cs[2:], os[2:], x)
		pair := joined(t, what, z, []group.G1{one.C, two.C}, []open.Opening{one.O, two.O}, x.Mul(x))
		wantAlike(t, what+": in parts", pair, first)
	}
}

// A shifted commitment's opening beside that of the same polynomial: as a bound is shown.
func TestShiftedOnesTogether(t *testing.T) {
	s := numbers{state: 73}
	var l []question
	for n := 1; n < 4; n++ {
		o := made(t, s.big(), s.big(), n)
		for d := range n + 1 {
			p, z := s.bigs(d+1), s.big()
			what := fmt.Sprintf("by the bound %d of %d", d, n)
			moved, e := poly.Shift(els(p), n-d)
			c, wrong := commit.Shifted(o, els(p), d)
			if e != api.OK || wrong != api.OK {
				t.Fatal(e, wrong)
			}
			plain := claimed(t, what, o, p, nil, z)
			shifted := batch.Claim{C: c, Z: el(z), O: opened(t, what, o, moved, nil, el(z))}
			wantEl(t, what, shifted.O.V, times(back(plain.O.V), raised(z, n-d)))
			l = append(l, question{what, o, []batch.Claim{plain, shifted}, el(s.big()), true})
			shifted.O.V = shifted.O.V.Add(fr.Of(1))
			l = append(l, question{what + ", with another V", o, []batch.Claim{plain, shifted}, el(s.big()), false})
		}
	}
	wantAnswers(t, l)
}

// By a trimmed setup claims hold together as by the long one; by an updated one those of
// the old one do not, nor do both together.
func TestOtherSetups(t *testing.T) {
	s := numbers{state: 74}
	long := made(t, s.big(), s.big(), 4)
	short, e := long.Trim(2)
	after, _, wrong := update.Update(long, el(s.big()))
	if e != api.OK || wrong != api.OK {
		t.Fatal(e, wrong)
	}
	var old, late []batch.Claim
	for range 3 {
		p, b, z := s.bigs(3), s.bigs(2), s.big()
		old, late = append(old, claimed(t, "before", short, p, b, z)), append(late, claimed(t, "after", after, p, b, z))
	}
	x := el(s.big())
	wantAnswers(t, []question{
		{"trimmed", short, old, x, true}, {"by the long one", long, old, x, true}, {"updated", after, late, x, true},
		{"old ones by the updated", after, old, x, false}, {"updated ones by the old", long, late, x, false},
		{"both by the old", long, slices.Concat(old, late), x, false}, {"both by the updated", after, slices.Concat(late, old), x, false},
		{"both by the old, at 0", long, slices.Concat(old, late), fr.El{}, true}, {"both by the updated, at 0", after, slices.Concat(old, late), fr.El{}, false},
	})
}

// At a place that is the setup's t W plays no part: whoever knows t makes claims of any
// values that hold together, of points that nobody committed to.
func TestAtTheSecret(t *testing.T) {
	s := numbers{state: 75}
	var l []question
	for i, pair := range [][2]*big.Int{{whole(2), whole(3)}, {s.big(), s.big()}} {
		x := expsOf(pair[0], pair[1], 1)
		var all []claim
		for _, w := range append(wholes(0, 1), s.big()) {
			v, b := s.big(), s.big()
			all = append(all, claim{plus(v, times(pair[1], b)), pair[0], v, b, w})
		}
		by := s.big()
		l = append(l, ask(fmt.Sprint("by ", i), x, all, by), ask(fmt.Sprint("another W, by ", i), x, off(all, 1, "w", whole(5)), by))
		l = append(l, ask(fmt.Sprint("another Z, by ", i), x, off(all, 2, "z", whole(5)), by), ask(fmt.Sprint("another V, by ", i), x, off(all, 0, "v", whole(5)), by))
	}
	hold(t, l, 2*2)
	wantAnswers(t, l)
}
