package commit_test

import (
	"encoding/hex"
	"fmt"
	"math"
	"math/big"
	"slices"
	"testing"

	"marlinspike/api"
	"marlinspike/commit"
	"marlinspike/fr"
	"marlinspike/group"
	"marlinspike/points"
	"marlinspike/srs"
)

// P19.1. The calls' forms are a part of the promises.
var (
	_ func(s *srs.SRS, p, b []fr.El) (group.G1, api.Errno)     = commit.Commit
	_ func(s *srs.SRS, p []fr.El, d int) (group.G1, api.Errno) = commit.Shifted
)

// wantText fails if a point has not these bytes, told by 16.
func wantText(t *testing.T, what string, p group.G1, text string) {
	t.Helper()
	if b := points.Put1(p); hex.EncodeToString(b[:]) != text {
		t.Errorf("%s: it is %x, not %s", what, b, text)
	}
}

// What the tests hold the program against is held against what was worked out apart.
func TestModel(t *testing.T) {
	l := setupsApart()
	for _, x := range commitsApart() {
		if k := l[x.name].commitment(pApart(x.p), bApart(x.b)); hex.EncodeToString(texts.tell(k)) != x.text {
			t.Errorf("%v: it is %x", x, texts.tell(k))
		}
	}
	for _, x := range shiftsApart() {
		if k := l[x.name].shifted(pApart(x.p), x.d); hex.EncodeToString(texts.tell(k)) != x.text {
			t.Errorf("%v: it is %x", x, texts.tell(k))
		}
	}
	for _, x := range foldsApart() {
		for n := range x.points {
			k, y := foldNumbers(raisedBy(7, 50, n), number(x.x)), foldNumbers(raisedBy(13, 90, n), number(x.x))
			if hex.EncodeToString(texts.tell(k)) != x.points[n] || y.Cmp(number(x.els[n])) != 0 {
				t.Errorf("%d by %s: they are %x, %x", n, x.x, texts.tell(k), y)
			}
		}
		for i, k := range foldLists(foldedApart(), number(x.x)) {
			if k.Cmp(number(x.poly[i])) != 0 {
				t.Errorf("the scalar %d by %s: it is %x", i, x.x, k)
			}
		}
	}
}

func TestToldApart(t *testing.T) {
	l := setupsApart()
	for _, x := range commitsApart() {
		what, s := fmt.Sprint(x), l[x.name].setup()
		wantText(t, what, committed(t, what, s, els(pApart(x.p)), els(bApart(x.b))), x.text)
	}
	for _, x := range shiftsApart() {
		what, s := fmt.Sprint(x), l[x.name].setup()
		wantText(t, what, shifted(t, what, s, els(pApart(x.p)), x.d), x.text)
	}
}

// pairsOf are pairs of scalars, each of them in several.
func pairsOf() (l [][2]*big.Int) {
	all := scalars()
	for i, t := range all {
		l = append(l, [2]*big.Int{t, all[(i*5+3)%len(all)]})
	}
	return append(l, [2]*big.Int{whole(2), whole(2)}, [2]*big.Int{minus(1), minus(1)})
}

// By setups of two scalars it is the generator p(t) + g b(t) times.
func TestCommit(t *testing.T) {
	pairs := pairsOf()
	together(len(pairs), func(i int) {
		tau, g, n := pairs[i][0], pairs[i][1], 1+i%5
		s := made(t, tau, g, n)
		l := some(n + 1)
		for j, p := range l {
			b := l[(j*3+i)%len(l)]
			k := plus(worth(p, tau), times(g, worth(b, tau)))
			wantCommitted(t, fmt.Sprintf("to %v and %v by %v, %v, %d", p, b, tau, g, n), s, p, b, k)
		}
	})
}

// Each power and each blind counts by its own scalar alone.
func TestEachPlace(t *testing.T) {
	x := exps{wholes(2, 3, 5, 7, 11, 13), wholes(17, 19, 23, 29, 31, 37)}
	s := x.setup()
	for i := range x.powers {
		one := append(zeros(i), whole(1))
		wantCommitted(t, fmt.Sprint("the power ", i), s, one, nil, x.powers[i])
		wantCommitted(t, fmt.Sprint("the blind ", i), s, nil, one, x.blinds[i])
		wantCommitted(t, fmt.Sprint("both at ", i), s, one, one, plus(x.powers[i], x.blinds[i]))
	}
}

// loose are setups that are of no two scalars: any points, the far one, alike ones and
// each other's negatives among them.
func loose() []exps {
	s := numbers{state: 2}
	return []exps{
		{wholes(0), wholes(0)}, {wholes(5), wholes(7)}, {s.bigs(1), s.bigs(1)},
		{wholes(0, 0, 0), wholes(0, 0, 0)}, {wholes(1, 1, 1), wholes(1, 1, 1)}, {wholes(1, -1, 1, -1), wholes(-1, 1, -1, 1)},
		{wholes(0, 1, 0, 2), wholes(3, 0, 4, 0)}, {wholes(2, 4, 8, 16), wholes(1, 1, 2, 3)}, {wholes(3, 6, 12), wholes(1, 2, 4)},
		{s.bigs(2), s.bigs(2)}, {s.bigs(3), wholes(0, 1, 0)}, {wholes(1, 0, -1), s.bigs(3)}, {s.bigs(6), s.bigs(6)}, {s.bigs(9), s.bigs(9)},
	}
}

// byPoints are a setup's points, each multiplied, together one by one.
func byPoints(s *srs.SRS, p, b []*big.Int) (sum group.G1) {
	for i := range count(p) {
		sum = group.Curve1().Add(sum, group.Mul1(s.Powers[i], el(p[i])))
	}
	for i := range count(b) {
		sum = group.Curve1().Add(sum, group.Mul1(s.Blinds[i], el(b[i])))
	}
	return sum
}

func TestCommitByAnyPoints(t *testing.T) {
	setups := loose()
	together(len(setups), func(i int) {
		x, s := setups[i], setups[i].setup()
		l := some(len(x.powers))
		for j, p := range l {
			b := l[(j*7+i)%len(l)]
			what := fmt.Sprintf("to %v and %v by the setup %d", p, b, i)
			wantCommitted(t, what, s, p, b, x.commitment(p, b))
			wantCommitted(t, what, other(s, j%ways), p, b, x.commitment(p, b))
			wantSame(t, what, committed(t, what, s, els(p), els(b)), byPoints(s, p, b))
		}
	})
}

// Points that are not of the group go by the scalars' numbers too: (2, 3) has the order
// 6, and r by 6 is 1.
func TestCommitGoesByTheNumbers(t *testing.T) {
	c, p := group.Curve1(), outside()
	s := &srs.SRS{Powers: []group.G1{p, gen, p}, Blinds: []group.G1{p, p, c.Neg(p)}}
	for n := range int64(13) {
		so := func(k int64) group.G1 { return c.Mul(p, []uint64{uint64(k % 6)}) }
		wantSame(t, fmt.Sprint("the power, ", n), committed(t, "", s, els(wholes(n)), nil), so(n))
		wantSame(t, fmt.Sprint("the power, r less ", n+1), committed(t, "", s, els([]*big.Int{minus(n + 1)}), nil), so(12-n))
		wantSame(t, fmt.Sprint("the blind, ", n), committed(t, "", s, nil, els(wholes(0, n))), so(n))
		wantSame(t, fmt.Sprint("shifted, ", n), shifted(t, "", s, els(wholes(n)), 0), so(n))
		wantSame(t, fmt.Sprint("all of them, ", n), committed(t, "", s, els(wholes(n, 1)), els(wholes(1, 1, 1))), c.Add(gen, so(n+1)))
	}
}

func TestExamples(t *testing.T) {
	s := made(t, whole(2), whole(3), 2)
	wantCommitted(t, "Commit(1 + Z^2, 5)", s, wholes(1, 0, 1), wholes(5), whole(20))
	wantShifted(t, "Shifted(1 + Z, 1)", s, wholes(1, 1), 1, whole(6))
	refuse(t, "Commit(Z^3)", s, wholes(0, 0, 0, 1), nil, api.ErrDegree)
	refuseShifted(t, "Shifted(Z^2, 1)", s, wholes(0, 0, 1), 1, api.ErrDegree)
	want(t, "Fold(G, G; 10)", commit.Fold([]group.G1{gen, gen}, fr.Of(10)), whole(11))
}

// By every bound, and polynomials of every degree that it allows, or more.
func TestShifted(t *testing.T) {
	setups := loose()
	for i, pair := range pairsOf() {
		setups = append(setups, expsOf(pair[0], pair[1], i%6))
	}
	together(len(setups), func(i int) {
		x, s := setups[i], setups[i].setup()
		degree := len(x.powers) - 1
		for d := range degree + 1 {
			for j, p := range some(degree + 1) {
				what := fmt.Sprintf("to %v by the setup %d and the bound %d", p, i, d)
				if count(p) > d+1 {
					refuseShifted(t, what, s, p, d, api.ErrDegree)
					continue
				}
				wantShifted(t, what, s, p, d, x.shifted(p, d))
				wantShifted(t, what, other(s, j%ways), p, d, x.shifted(p, d))
			}
		}
	})
}

// By setups of two scalars it is the generator t^(D - d) p(t) times.
func TestShiftedByTwoScalars(t *testing.T) {
	pairs := pairsOf()
	together(len(pairs), func(i int) {
		tau, g, n := pairs[i][0], pairs[i][1], 1+i%5
		s := made(t, tau, g, n)
		for d := range n + 1 {
			for _, p := range some(d + 1) {
				k := times(raised(tau, n-d), worth(p, tau))
				wantShifted(t, fmt.Sprintf("to %v by %v, %v, %d and the bound %d", p, tau, g, n, d), s, p, d, k)
			}
		}
	})
}

// of are polynomials of just this degree: with nothing but the highest scalar, with
// nothing that is 0, and with zeros at the end.
func of(degree int) [][]*big.Int {
	s := numbers{state: uint64(degree)}
	high := append(zeros(degree), minus(1))
	full := s.bigs(degree + 1)
	return [][]*big.Int{high, full, longer(high, 1), longer(full, 1), longer(full, 40)}
}

// p alone, b alone, and both of the degree D and of one more.
func TestDegrees(t *testing.T) {
	s := numbers{state: 3}
	for degree := range 6 {
		x := exps{s.bigs(degree + 1), s.bigs(degree + 1)}
		o := x.setup()
		for i, p := range of(degree) {
			what := fmt.Sprintf("of the degree %d, %d", degree, i)
			wantCommitted(t, what+": p", o, p, nil, x.commitment(p, nil))
			wantCommitted(t, what+": b", o, nil, p, x.commitment(nil, p))
			wantCommitted(t, what+": both", o, p, p, x.commitment(p, p))
		}
		for _, more := range []int{1, 2, 30} {
			for i, p := range of(degree + more) {
				what := fmt.Sprintf("of the degree %d by one of %d, %d", degree+more, degree, i)
				fits := of(degree)[i]
				refuse(t, what+": p", o, p, nil, api.ErrDegree)
				refuse(t, what+": b", o, nil, p, api.ErrDegree)
				refuse(t, what+": both", o, p, p, api.ErrDegree)
				refuse(t, what+": p, and b fits", o, p, fits, api.ErrDegree)
				refuse(t, what+": b, and p fits", o, fits, p, api.ErrDegree)
			}
		}
	}
}

// Lists that are longer than the setup, of polynomials that are not.
func TestZerosAtTheEnd(t *testing.T) {
	x := exps{wholes(2, 3, 5), wholes(7, 11, 13)}
	s := x.setup()
	for _, n := range []int{0, 1, 2, 3, 4, 5, 100, 70000} {
		none := zeros(n)
		for i, c := range []struct {
			p, b []*big.Int
			k    int64
		}{
			{none, nil, 0}, {nil, none, 0}, {none, none, 0},
			{longer(wholes(1, 0, 1), n), none, 7}, {none, longer(wholes(0, 1), n), 11}, {longer(wholes(4), n), longer(wholes(0, 0, 1), n), 21},
		} {
			wantCommitted(t, fmt.Sprintf("%d zeros, %d", n, i), s, c.p, c.b, whole(c.k))
		}
		for d := range 3 {
			wantShifted(t, fmt.Sprintf("%d zeros, shifted by %d", n, d), s, none, d, whole(0))
			wantShifted(t, fmt.Sprintf("6 and %d zeros, shifted by %d", n, d), s, longer(wholes(6), n), d, times(whole(6), x.powers[2-d]))
		}
		wantShifted(t, fmt.Sprintf("two and %d zeros, shifted", n), s, longer(wholes(1, 2), n), 1, whole(13))
		refuseShifted(t, fmt.Sprintf("two and %d zeros, shifted by too little", n), s, longer(wholes(1, 2), n), 0, api.ErrDegree)
		refuse(t, fmt.Sprintf("%d zeros, and one more", n), s, append(longer(zeros(3), n), whole(1)), nil, api.ErrDegree)
		refuse(t, fmt.Sprintf("%d zeros, and one more behind the blinds", n), s, nil, append(longer(zeros(3), n), whole(1)), api.ErrDegree)
	}
}

// One power and one blind.
func TestSetupsOfTheDegree0(t *testing.T) {
	for _, x := range []exps{{wholes(1), wholes(3)}, {wholes(0), wholes(5)}, {wholes(4), wholes(0)}, {wholes(-1), wholes(1)}} {
		s := x.setup()
		wantCommitted(t, "nothing", s, nil, nil, whole(0))
		wantCommitted(t, "6 and 7", s, wholes(6), longer(wholes(7), 3), plus(times(whole(6), x.powers[0]), times(whole(7), x.blinds[0])))
		wantCommitted(t, "1 and 1", s, wholes(1), wholes(1), plus(x.powers[0], x.blinds[0]))
		refuse(t, "Z", s, wholes(0, 1), nil, api.ErrDegree)
		refuse(t, "Z, blinding", s, nil, wholes(0, 1), api.ErrDegree)
		wantShifted(t, "6, shifted", s, wholes(6, 0), 0, times(whole(6), x.powers[0]))
		wantShifted(t, "0, shifted", s, nil, 0, whole(0))
		refuseShifted(t, "Z, shifted", s, wholes(0, 1), 0, api.ErrDegree)
		for _, d := range []int{-1, 1, 2, math.MinInt, math.MaxInt} {
			refuseShifted(t, fmt.Sprint("6, shifted by ", d), s, wholes(6), d, api.ErrDegree)
			refuseShifted(t, fmt.Sprint("0, shifted by ", d), s, nil, d, api.ErrDegree)
		}
	}
}

// badBounds are those that no setup of the degree allows.
func badBounds(degree int) []int {
	return []int{-1, -2, -degree, -degree - 1, math.MinInt, math.MinInt + 1, math.MinInt32, degree + 1, degree + 2, 2*degree + 2, 1 << 31, 1<<31 + 1, 1 << 32, 1<<32 + 1, math.MaxInt32, math.MaxInt - 1, math.MaxInt}
}

func TestBounds(t *testing.T) {
	for degree := 1; degree < 6; degree++ {
		x := expsOf(whole(2), whole(3), degree)
		s := x.setup()
		for _, p := range [][]*big.Int{nil, {}, zeros(1), zeros(9), wholes(1), longer(wholes(1), 9), wholes(1, 1), of(degree)[1], of(degree + 1)[1], of(degree + 9)[0]} {
			for _, d := range badBounds(degree) {
				refuseShifted(t, fmt.Sprintf("to %v by %d of %d", p, d, degree), s, p, d, api.ErrDegree)
			}
		}
		for d := range degree + 1 {
			for _, none := range [][]*big.Int{nil, {}, zeros(1), zeros(degree + 1), zeros(degree + 2), zeros(99)} {
				wantShifted(t, fmt.Sprintf("0 by %d of %d", d, degree), s, none, d, whole(0))
			}
		}
	}
}

// Of the degree d, and of one more.
func TestShiftedDegrees(t *testing.T) {
	s := numbers{state: 4}
	for degree := range 7 {
		x := exps{s.bigs(degree + 1), s.bigs(degree + 1)}
		o := x.setup()
		for d := range degree + 1 {
			for i, p := range of(d) {
				wantShifted(t, fmt.Sprintf("of the degree %d, %d, by the bound %d of %d", d, i, d, degree), o, p, d, x.shifted(p, d))
			}
			for _, more := range []int{1, 2, degree - d + 1, 30} {
				for i, p := range of(d + more) {
					refuseShifted(t, fmt.Sprintf("of the degree %d, %d, by the bound %d of %d", d+more, i, d, degree), o, p, d, api.ErrDegree)
				}
			}
		}
	}
}

// badSetups are those that are refused, whatever is asked of them.
func badSetups(t *testing.T) (l []*srs.SRS) {
	long := made(t, whole(2), whole(3), 4)
	for powers := range 6 {
		for blinds := range 6 {
			if powers != blinds || powers == 0 {
				l = append(l, cut(long, powers, blinds))
			}
		}
	}
	l = append(l, &srs.SRS{}, &srs.SRS{Powers: []group.G1{}}, &srs.SRS{Blinds: []group.G1{}}, &srs.SRS{Powers: []group.G1{}, Blinds: []group.G1{}, Tau: gen2})
	return append(l, &srs.SRS{Powers: []group.G1{gen}}, &srs.SRS{Blinds: []group.G1{gen}}, &srs.SRS{Powers: long.Powers, Blinds: slices.Concat(long.Blinds, long.Blinds)})
}

// A setup that is nil comes first, then one whose lists may not be, then degrees and
// bounds.
func TestErrorsInOrder(t *testing.T) {
	setups := append(badSetups(t), nil)
	for i, s := range setups {
		e := api.ErrArg
		if s == nil {
			e = api.ErrNil
		}
		for _, p := range [][]*big.Int{nil, {}, zeros(1), zeros(20), wholes(1), wholes(0, 1), wholes(1, 2, 3), of(3)[1], of(4)[1], of(5)[1], of(40)[0]} {
			for _, b := range [][]*big.Int{nil, zeros(20), wholes(7), of(3)[1], of(40)[0]} {
				refuse(t, fmt.Sprintf("to %v and %v by the bad setup %d", p, b, i), s, p, b, e)
			}
			for _, d := range append(badBounds(4), 0, 1, 2, 3, 4) {
				refuseShifted(t, fmt.Sprintf("to %v by %d of the bad setup %d", p, d, i), s, p, d, e)
			}
		}
	}
}

// Of lists of one length each that is above the other's, the setup of fewer is one.
func TestCutSetups(t *testing.T) {
	x, s := expsOf(whole(2), whole(3), 5), made(t, whole(2), whole(3), 5)
	p, b := wholes(4, -3, 6, 2, 1, 9), wholes(-2, 8, 5, 0, 0, 7)
	for n := 1; n < 7; n++ {
		o := cut(s, n, n)
		wantCommitted(t, fmt.Sprint("of ", n), o, p[:n], b[:n], exps{x.powers[:n], x.blinds[:n]}.commitment(p[:n], b[:n]))
		wantShifted(t, fmt.Sprint("shifted, of ", n), o, wholes(4, -3)[:min(n, 2)], n-1, exps{x.powers[:n], x.blinds[:n]}.shifted(wholes(4, -3)[:min(n, 2)], n-1))
		if n < 6 { // what lies behind the lists' ends is none of it
			refuse(t, fmt.Sprint("too much, of ", n), o, p[:n+1], nil, api.ErrDegree)
			refuseShifted(t, fmt.Sprint("the bound above, of ", n), o, wholes(1), n, api.ErrDegree)
		}
	}
}

// counted is a setup whose i-th power is i + 1 times the generator, and whose i-th blind
// three times as often.
func counted(n int) *srs.SRS {
	c, three := group.Curve1(), told.tell(whole(3))
	s := &srs.SRS{Powers: []group.G1{gen}, Blinds: []group.G1{three}}
	for i := range n {
		s.Powers = append(s.Powers, c.Add(s.Powers[i], gen))
		s.Blinds = append(s.Blinds, c.Add(s.Blinds[i], three))
	}
	return s
}

// countedWorth is what the generator is multiplied by in a commitment by it.
func countedWorth(p, b []*big.Int) *big.Int {
	sum := new(big.Int)
	for i, k := range p {
		sum.Add(sum, new(big.Int).Mul(k, whole(int64(i+1))))
	}
	for i, k := range b {
		sum.Add(sum, new(big.Int).Mul(k, whole(3*int64(i+1))))
	}
	return mod(sum)
}

// The greatest setup that srs makes.
func TestTheGreatestSetup(t *testing.T) {
	n := api.MaxPower
	s, source := counted(n), numbers{state: 6}
	p, b := source.bigs(n+1), source.bigs(n+1)
	wantCommitted(t, "all of it", s, p, b, countedWorth(p, b))
	wantCommitted(t, "few", s, p[:3], longer(b[:2], n), countedWorth(p[:3], b[:2]))
	high := append(zeros(n), whole(-5))
	wantCommitted(t, "the highest", s, high, nil, countedWorth(high, nil))
	wantCommitted(t, "the highest blind", s, nil, high, countedWorth(nil, high))
	wantShifted(t, "shifted by 2", s, p[:3], 2, countedWorth(append(zeros(n-2), p[:3]...), nil))
	wantShifted(t, "shifted by all but one", s, p[:9], n-1, countedWorth(append(zeros(1), p[:9]...), nil))
	wantShifted(t, "shifted by all", s, high, n, countedWorth(high, nil))
	refuse(t, "one more", s, append(p, whole(1)), b, api.ErrDegree)
	refuse(t, "one blind more", s, p, append(b, whole(1)), api.ErrDegree)
	refuseShifted(t, "one more, shifted", s, append(p, whole(1)), n, api.ErrDegree)
	refuseShifted(t, "the bound above", s, p[:3], n+1, api.ErrDegree)
}

// The chapter has no bound of its own: a longer setup than those is as good, and so is a
// shift by more than poly takes.
func TestLongerSetups(t *testing.T) {
	n := api.MaxDomain + 9
	s := counted(n)
	high := append(zeros(n), whole(6))
	wantCommitted(t, "few", s, wholes(1, 2, 3), wholes(4), countedWorth(wholes(1, 2, 3), wholes(4)))
	wantCommitted(t, "the highest", s, high, wholes(1), countedWorth(high, wholes(1)))
	wantShifted(t, "shifted by 0", s, wholes(7), 0, countedWorth(append(zeros(n), whole(7)), nil))
	wantShifted(t, "shifted by 3", s, wholes(7, 0, 2), 3, countedWorth(append(zeros(n-3), wholes(7, 0, 2)...), nil))
	wantShifted(t, "0, shifted by 0", s, nil, 0, whole(0))
}
