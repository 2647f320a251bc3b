package commit_test

import (
	"fmt"
	"math/big"
	"testing"

	"marlinspike/api"
	"marlinspike/commit"
	"marlinspike/fr"
	"marlinspike/group"
	"marlinspike/poly"
	"marlinspike/srs"
)

// P19.3: commitments go by sums and multiples, folds of commitments are commitments to
// folds, and a shifted one is the commitment to the product with Z^(D - d).

// drawn are setups of some degree, of two scalars and of none.
func drawn(t *testing.T, n int) []*srs.SRS {
	t.Helper()
	s := numbers{state: uint64(20 + n)}
	l := []*srs.SRS{made(t, whole(2), whole(3), n), made(t, minus(1), minus(1), n), made(t, s.big(), s.big(), n)}
	l = append(l, exps{s.bigs(n + 1), s.bigs(n + 1)}.setup(), exps{zeros(n + 1), s.bigs(n + 1)}.setup())
	return append(l, other(l[2], n))
}

// byEach asks something of setups of the degrees 1 to 4, with numbers of its own for each.
func byEach(t *testing.T, ask func(what string, o *srs.SRS, s *numbers)) {
	t.Helper()
	for n := 1; n < 5; n++ {
		setups := drawn(t, n)
		together(len(setups), func(i int) {
			ask(fmt.Sprintf("of the degree %d, %d", n, i), setups[i], &numbers{state: uint64(100*n + i)})
		})
	}
}

// The generator as often as both polynomials are worth at t, that of the blinding one g
// times.
func TestGeneratorByWorths(t *testing.T) {
	s := numbers{state: 21}
	for n := 1; n < 6; n++ {
		tau, g := s.big(), s.big()
		o := made(t, tau, g, n)
		for i, p := range some(n + 1) {
			b := s.bigs(s.below(n + 2))
			what := fmt.Sprintf("of the degree %d, %d", n, i)
			k := poly.Eval(els(p), el(tau)).Add(el(g).Mul(poly.Eval(els(b), el(tau))))
			wantSame(t, what, committed(t, what, o, els(p), els(b)), group.Mul1(gen, k))
			want(t, what, committed(t, what, o, els(p), els(b)), plus(worth(p, tau), times(g, worth(b, tau))))
			for d := max(0, count(p)-1); d <= n; d++ {
				power := el(raised(tau, n-d))
				wantSame(t, what+", shifted", shifted(t, what, o, els(p), d), group.Mul1(gen, power.Mul(poly.Eval(els(p), el(tau)))))
				wantSame(t, what+", shifted", shifted(t, what, o, els(p), d), group.Mul1(committed(t, what, o, els(p), nil), power))
			}
		}
	}
}

func TestCommitmentsGoBySums(t *testing.T) {
	c := group.Curve1()
	byEach(t, func(what string, o *srs.SRS, s *numbers) {
		l := polys(some(o.Degree() + 1))
		for j, p := range l {
			q, b, d := l[(j*5+2)%len(l)], l[(j*3+1)%len(l)], l[(j*7+2)%len(l)]
			what := fmt.Sprint(what, ", ", j)
			first, second := committed(t, what, o, p, b), committed(t, what, o, q, d)
			wantSame(t, what+": the sum", committed(t, what, o, poly.Add(p, q), poly.Add(b, d)), c.Add(first, second))
			wantSame(t, what+": the difference", committed(t, what, o, poly.Sub(p, q), poly.Sub(b, d)), c.Add(first, c.Neg(second)))
			k := el(s.big())
			wantSame(t, what+": the multiple", committed(t, what, o, poly.Scale(p, k), poly.Scale(b, k)), group.Mul1(first, k))
			wantSame(t, what+": less itself", committed(t, what, o, poly.Sub(p, p), poly.Sub(b, b)), group.G1{})
			wantSame(t, what+": both apart", c.Add(committed(t, what, o, p, nil), committed(t, what, o, nil, b)), first)
		}
	})
}

func TestShiftedGoBySums(t *testing.T) {
	c := group.Curve1()
	byEach(t, func(what string, o *srs.SRS, s *numbers) {
		for d := range o.Degree() + 1 {
			l := polys(some(d + 1))
			for j, p := range l {
				q, k := l[(j*5+2)%len(l)], el(s.big())
				what := fmt.Sprint(what, ", ", j, " by ", d)
				first, second := shifted(t, what, o, p, d), shifted(t, what, o, q, d)
				wantSame(t, what+": the sum", shifted(t, what, o, poly.Add(p, q), d), c.Add(first, second))
				wantSame(t, what+": the multiple", shifted(t, what, o, poly.Scale(p, k), d), group.Mul1(first, k))
			}
		}
	})
}

func TestShiftedAreProducts(t *testing.T) {
	byEach(t, func(what string, o *srs.SRS, _ *numbers) {
		n := o.Degree()
		for d := range n + 1 {
			for j, p := range polys(some(d + 1)) {
				what := fmt.Sprint(what, ", ", j, " by ", d)
				got := shifted(t, what, o, p, d)
				moved, e := poly.Shift(p, n-d)
				if e != api.OK {
					t.Error(e)
				}
				power := append(make([]fr.El, n-d), fr.Of(1))
				wantSame(t, what, committed(t, what, o, moved, nil), got)
				wantSame(t, what, committed(t, what, o, poly.Mul(power, p), nil), got)
				wantSame(t, what+": by D", shifted(t, what, o, moved, n), got)
				if d == n {
					wantSame(t, what+": by all", committed(t, what, o, p, nil), got)
				}
			}
		}
	})
}

// handful are n polynomials of up to so many scalars, of unlike lengths.
func handful(s *numbers, n, most int) (l [][]*big.Int) {
	all := some(most)
	for range n {
		if s.below(3) == 0 {
			l = append(l, all[s.below(len(all))])
		} else {
			l = append(l, s.bigs(s.below(most+1)))
		}
	}
	return l
}

func TestFoldsOfCommitments(t *testing.T) {
	byEach(t, func(what string, o *srs.SRS, s *numbers) {
		for many := range 6 {
			most := o.Degree() + 1
			ps, bs := polys(handful(s, many, most)), polys(handful(s, many, most))
			x := el(bys()[s.below(len(bys()))])
			var commitments []group.G1
			what := fmt.Sprint(what, ", ", many, " by ", back(x))
			for j := range many {
				commitments = append(commitments, committed(t, what, o, ps[j], bs[j]))
			}
			wantSame(t, what, commit.Fold(commitments, x), committed(t, what, o, commit.FoldPoly(ps, x), commit.FoldPoly(bs, x)))
		}
	})
}

func TestFoldsOfShifted(t *testing.T) {
	byEach(t, func(what string, o *srs.SRS, s *numbers) {
		for d := range o.Degree() + 1 {
			ps, x := polys(handful(s, 1+s.below(4), d+1)), el(s.big())
			var commitments []group.G1
			what := fmt.Sprint(what, ", ", len(ps), " by the bound ", d)
			for _, p := range ps {
				commitments = append(commitments, shifted(t, what, o, p, d))
			}
			wantSame(t, what, commit.Fold(commitments, x), shifted(t, what, o, commit.FoldPoly(ps, x), d))
		}
	})
}

// What folds are worth are folds of what each is worth, and folds go by sums.
func TestFoldsOfWorths(t *testing.T) {
	s := numbers{state: 26}
	for many := range 8 {
		ps, qs := polys(handful(&s, many, 6)), polys(handful(&s, many, 6))
		for _, by := range bys() {
			x, z := el(by), el(s.big())
			var worths, sums []fr.El
			var both [][]fr.El
			for i, p := range ps {
				worths = append(worths, poly.Eval(p, z))
				sums = append(sums, poly.Eval(p, z).Add(poly.Eval(qs[i], z)))
				both = append(both, poly.Add(p, qs[i]))
			}
			what := fmt.Sprintf("%d by %v", many, by)
			wantEl(t, what, poly.Eval(commit.FoldPoly(ps, x), z), back(commit.FoldEl(worths, x)))
			wantEl(t, what+", with others", poly.Eval(commit.FoldPoly(both, x), z), back(commit.FoldEl(sums, x)))
			wantPoly(t, what+", with others", commit.FoldPoly(both, x), backs(poly.Add(commit.FoldPoly(ps, x), commit.FoldPoly(qs, x))))
			wantEl(t, what+": what scalars are, too", commit.FoldEl(worths, x), back(poly.Eval(worths, x)))
		}
	}
}

// By a trimmed setup commitments are the same ones; shifted ones are those to lesser
// powers.
func TestTrimmedSetups(t *testing.T) {
	s := numbers{state: 27}
	tau := s.big()
	long := made(t, tau, s.big(), 6)
	for n := 1; n < 6; n++ {
		short, e := long.Trim(n)
		if e != api.OK {
			t.Fatal(e)
		}
		for i, p := range polys(some(n + 1)) {
			what := fmt.Sprintf("of %d, %d", n, i)
			b := els(s.bigs(s.below(n + 2)))
			wantSame(t, what, committed(t, what, short, p, b), committed(t, what, long, p, b))
			wantSame(t, what+", shifted", group.Mul1(shifted(t, what, short, p, n), el(raised(tau, 6-n))), shifted(t, what, long, p, n))
		}
	}
}
