package batch_test

import (
	"fmt"
	"math/big"
	"slices"
	"testing"

	"marlinspike/batch"
	"marlinspike/fr"
	"marlinspike/group"
	"marlinspike/open"
	"marlinspike/points"
)

// P21.2.

// join is the claim at z of the folds of all parts, each by itself.
func join(z *big.Int, l []claim, x *big.Int) claim {
	part := func(name string) *big.Int {
		return folded(l, x, func(a claim) *big.Int { return *a.part(name) })
	}
	return claim{part("c"), z, part("v"), part("b"), part("w")}
}

// joinedOf is what Join tells of claims' commitments and openings; their own places play
// no part.
func joinedOf(t *testing.T, what string, z *big.Int, l []claim, x *big.Int) batch.Claim {
	t.Helper()
	cs, os := parted(claims(l))
	return joined(t, what, el(z), cs, os, el(x))
}

// openings are those that were worked out: of n polynomials, all at one place.
func (a joinApart) openings() (l []claim) {
	x := setupsApart()[a.name]
	for i := range a.n {
		p, b := polysApart(len(x.powers), i, a.n)
		l = append(l, x.opening(p, b, number(a.z)))
	}
	return l
}

func TestJoinToldApart(t *testing.T) {
	for i, a := range joinsApart() {
		what, s := fmt.Sprintf("%d: %v", i, a), setupsApart()[a.name].setup()
		var cs []group.G1
		var os []open.Opening
		for j, l := range a.openings() {
			p, b := polysApart(len(s.Powers), j, a.n)
			cs, os = append(cs, committed(t, what, s, els(p), els(b))), append(os, opened(t, what, s, els(p), els(b), el(l.z)))
		}
		l := joined(t, what, el(number(a.z)), cs, os, el(number(a.x)))
		wantText(t, what+": C", l.C, a.c)
		wantText(t, what+": W", l.O.W, a.w)
		wantEl(t, what+": Z", l.Z, number(a.z))
		wantEl(t, what+": V", l.O.V, number(a.v))
		wantEl(t, what+": B", l.O.B, number(a.b))
	}
}

// wantText fails if a point has not these bytes, told by 16.
func wantText(t *testing.T, what string, p group.G1, text string) {
	t.Helper()
	if b := points.Put1(p); fmt.Sprintf("%x", b) != text {
		t.Errorf("%s: it is %x, not %s", what, b, text)
	}
}

// lists are claims to join: none, one and more, that hold of nothing; such as are alike,
// each other's negatives, and 0 among them.
func lists() (l [][]claim) {
	s := numbers{state: 30}
	of := func(c, v, b, w int64) claim { return claim{whole(c), whole(5), whole(v), whole(b), whole(w)} }
	l = [][]claim{
		nil, {}, {of(0, 0, 0, 0)}, {of(1, 0, 0, 0)}, {of(0, 1, 0, 0)}, {of(0, 0, 1, 0)}, {of(0, 0, 0, 1)}, {of(1, 2, 3, 4)},
		{of(1, 2, 3, 4), of(1, 2, 3, 4)}, {of(1, 2, 3, 4), of(-1, -2, -3, -4)}, {of(0, 0, 0, 0), of(1, 2, 3, 4)}, {of(1, 2, 3, 4), of(0, 0, 0, 0)},
		{of(1, 10, 100, 1000), of(2, 20, 200, 2000), of(3, 30, 300, 3000)}, {of(0, 0, 0, 7), of(0, 0, 7, 0), of(0, 7, 0, 0), of(7, 0, 0, 0)},
	}
	for _, n := range []int{1, 2, 3, 5, 8} {
		l = append(l, drawn(&s, n))
	}
	return l
}

// Each part is the fold of that part of all.
func TestJoin(t *testing.T) {
	l, xs, zs := lists(), bys(), places(whole(9))
	together(len(l), func(i int) {
		for j, x := range xs {
			z := zs[(i+j)%len(zs)]
			what := fmt.Sprintf("the list %d by %v at %v", i, x, z)
			wantClaim(t, what, joinedOf(t, what, z, l[i], x), join(z, l[i], x))
			if j%5 == 0 {
				cs, os := parted(otherClaims(claims(l[i]), j))
				wantClaim(t, what+", by other values", joined(t, what, el(z), cs, os, el(x)), join(z, l[i], x))
			}
		}
	})
}

// By small scalars, worked out by hand.
func TestSmallJoins(t *testing.T) {
	of := func(c, z, v, b, w int64) claim { return claim{whole(c), whole(z), whole(v), whole(b), whole(w)} }
	l := []claim{of(1, 70, 4, 7, 2), of(2, 80, 5, -8, 0), of(3, 90, 6, 9, -1)}
	for i, x := range []struct {
		l      []claim
		z, x   int64
		wanted claim
	}{
		{l, 11, 10, of(321, 11, 654, 827, -98)}, {l, 0, 0, of(1, 0, 4, 7, 2)}, {l, -1, 1, of(6, -1, 15, 8, 1)}, {l, 1, -1, of(2, 1, 5, 24, 1)},
		{l[:2], 70, 10, of(21, 70, 54, -73, 2)}, {l[1:], 80, 10, of(32, 80, 65, 82, -10)}, {l[1:2], 80, 10, of(2, 80, 5, -8, 0)}, {l[2:], 0, 0, of(3, 0, 6, 9, -1)},
	} {
		what := fmt.Sprint("the join ", i)
		wantClaim(t, what, joinedOf(t, what, whole(x.z), x.l, whole(x.x)), x.wanted)
	}
}

// Lists of unlike lengths, either one the longer, either one nil or empty; zero points
// and openings count.
func TestUnlikeLengths(t *testing.T) {
	s := numbers{state: 31}
	cs, os := parted(claims(drawn(&s, 6)))
	for n := range 7 {
		for m := range 7 {
			for i, x := range []fr.El{{}, fr.Of(1), el(s.big())} {
				what := fmt.Sprintf("%d and %d by %d", n, m, i)
				for _, z := range []fr.El{{}, el(s.big())} {
					if n != m {
						refuseJoin(t, what, z, cs[:n], os[:m], x)
						refuseJoin(t, what+", zero ones", z, make([]group.G1, n), make([]open.Opening, m), x)
						continue
					}
					joined(t, what, z, cs[:n], os[:m], x)
					wantAlike(t, what+", zero ones", joined(t, what, z, make([]group.G1, n), make([]open.Opening, m), x), batch.Claim{Z: z})
				}
			}
		}
		if n > 0 {
			refuseJoin(t, fmt.Sprint("no openings of ", n), fr.Of(3), cs[:n], nil, fr.Of(2))
			refuseJoin(t, fmt.Sprint("no commitments for ", n), fr.Of(3), nil, os[:n], fr.Of(2))
		}
	}
	refuseJoin(t, "many", fr.Of(3), make([]group.G1, 70000), os, fr.Of(2))
	refuseJoin(t, "many, the other way", fr.Of(3), cs, make([]open.Opening, 70000), fr.Of(2))
}

// Of none it is the claim of nothing, at z.
func TestJoinOfNone(t *testing.T) {
	for _, x := range bys() {
		for _, z := range places(whole(9)) {
			for i, cs := range [][]group.G1{nil, {}} {
				for j, os := range [][]open.Opening{nil, {}} {
					what := fmt.Sprintf("none, %d and %d, by %v at %v", i, j, x, z)
					l := joined(t, what, el(z), cs, os, el(x))
					wantClaim(t, what, l, claim{whole(0), z, whole(0), whole(0), whole(0)})
					if c := group.Curve1(); !c.Same(l.C, group.G1{}) || !c.Same(l.O.W, group.G1{}) {
						t.Errorf("%s: not the far one", what)
					}
				}
			}
		}
	}
}

// Of one it is that one, at whatever z, by whatever x; by 0 it is the first one.
func TestJoinOfOne(t *testing.T) {
	s := numbers{state: 32}
	zs := places(whole(9))
	for i, x := range bys() {
		all, z := drawn(&s, 1+i%4), zs[i%len(zs)]
		all[0].z = z
		what := fmt.Sprintf("by %v at %v", x, z)
		wantClaim(t, what, joinedOf(t, what, z, all[:1], x), all[0])
		wantClaim(t, what+", by 0", joinedOf(t, what, z, all, whole(0)), all[0])
		turned := slices.Concat(all[1:], all[:1])
		wantClaim(t, what+", by 0, turned", joinedOf(t, what, z, turned, whole(0)), at(turned[0], z))
	}
}

// at is a claim at another place.
func at(l claim, z *big.Int) claim {
	l.z = z
	return l
}

// Each part goes by itself: what is in one of them is in no other one.
func TestPartsApart(t *testing.T) {
	s := numbers{state: 33}
	for n := 1; n < 5; n++ {
		for _, name := range []string{"c", "v", "b", "w"} {
			for i := range n {
				zero := claim{whole(0), whole(0), whole(0), whole(0), whole(0)}
				l, k, x, z := slices.Repeat([]claim{zero}, n), s.big(), s.big(), s.big()
				l = off(l, i, name, k)
				wanted := at(zero, z)
				*wanted.part(name) = times(k, raised(x, i))
				what := fmt.Sprintf("%s at %d of %d", name, i, n)
				wantClaim(t, what, joinedOf(t, what, z, l, x), wanted)
			}
		}
	}
}

// Points that are not of the group go by the scalars' numbers: x^2 is a scalar, and not x
// times x. (2, 3) has the order 6.
func TestJoinGoesByTheNumbers(t *testing.T) {
	c, p := group.Curve1(), outside()
	ps := []group.G1{p, gen, c.Neg(p), c.Add(p, gen), {}, p}
	for i, x := range bys() {
		var first, second group.G1
		var cs []group.G1
		var os []open.Opening
		for j := range ps {
			power, o := el(raised(x, j)), ps[(i+j+1)%6]
			cs, os = append(cs, ps[j]), append(os, open.Opening{W: o})
			first, second = c.Add(first, group.Mul1(ps[j], power)), c.Add(second, group.Mul1(o, power))
		}
		wantAlike(t, fmt.Sprint("by ", x), joined(t, "by numbers", fr.Of(3), cs, os, el(x)), batch.Claim{C: first, Z: fr.Of(3), O: open.Opening{W: second}})
	}
}

// Many.
func TestLongJoins(t *testing.T) {
	s := numbers{state: 34}
	few := drawn(&s, 7)
	var l []claim
	for i := range 150 {
		l = append(l, few[i*i%7])
	}
	z, x := s.big(), s.big()
	wantClaim(t, "150", joinedOf(t, "150", z, l, x), join(z, l, x))
	wantClaim(t, "150 by -1", joinedOf(t, "150", z, l, whole(-1)), join(z, l, whole(-1)))
}

// Openings that do not hold are joined all the same, and what they are joined into does
// not hold, but for an x at which their faults undo each other.
func TestJoinOfWhatDoesNotHold(t *testing.T) {
	s := numbers{state: 35}
	pair := [2]*big.Int{s.big(), s.big()}
	x := expsOf(pair[0], pair[1], 2)
	var l []question
	for i, name := range []string{"c", "v", "b", "w"} {
		z, by, k := s.big(), s.big(), s.big()
		var all []claim
		for range 3 {
			all = append(all, x.opening(s.bigs(3), s.bigs(2), z))
		}
		all = x.lack(all, i%3, name, k)
		undone := x.lack(all, (i+1)%3, "v", new(big.Int).Neg(times(times(k, raised(by, i%3)), new(big.Int).ModInverse(raised(by, (i+1)%3), r))))
		for j, c := range []struct {
			l  []claim
			by *big.Int
			is bool
		}{{all, by, false}, {undone, by, true}, {undone, plus(by, whole(1)), false}, {all, whole(0), i%3 > 0}} {
			what := fmt.Sprintf("%s, %d", name, j)
			wantClaim(t, what, joinedOf(t, what, z, c.l, c.by), join(z, c.l, c.by))
			one := []batch.Claim{joinedOf(t, what, z, c.l, c.by)}
			l = append(l, question{what, x.setup(), one, el(s.big()), c.is})
		}
	}
	wantAnswers(t, l)
}
