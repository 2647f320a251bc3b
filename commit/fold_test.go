package commit_test

import (
	"fmt"
	"math/big"
	"slices"
	"testing"

	"marlinspike/commit"
	"marlinspike/fr"
	"marlinspike/group"
)

// P19.2. The calls' forms are a part of the promises.
var (
	_ func(ps []group.G1, x fr.El) group.G1 = commit.Fold
	_ func(ps [][]fr.El, x fr.El) []fr.El   = commit.FoldPoly
	_ func(l []fr.El, x fr.El) fr.El        = commit.FoldEl
)

func TestFoldsToldApart(t *testing.T) {
	for _, x := range foldsApart() {
		by := el(number(x.x))
		for n := range x.points {
			what := fmt.Sprintf("%d by %s", n, x.x)
			wantText(t, what, commit.Fold(all(raisedBy(7, 50, n)), by), x.points[n])
			wantEl(t, what, commit.FoldEl(els(raisedBy(13, 90, n)), by), number(x.els[n]))
		}
		var wanted []*big.Int
		for _, digits := range x.poly {
			wanted = append(wanted, number(digits))
		}
		wantPoly(t, "by "+x.x, commit.FoldPoly(polys(foldedApart()), by), wanted)
	}
}

// bys are scalars to fold by.
func bys() []*big.Int {
	s := numbers{state: 7}
	root, _ := fr.Root(4)
	return append(scalars(), whole(0), whole(-3), whole(10), back(root), s.big(), s.big())
}

// folded are lists to fold: none, one, and more; 0, such as are alike, and each other's
// negatives, among them.
func folded() [][]*big.Int {
	s := numbers{state: 8}
	l := [][]*big.Int{
		nil, {}, wholes(0), wholes(1), wholes(-1), wholes(0, 0), wholes(1, 1), wholes(1, -1), wholes(0, 1), wholes(1, 0),
		wholes(1, 2, 3), wholes(3, 2, 1), wholes(0, 0, 5), wholes(5, 0, 0), wholes(4, 4, 4, 4), wholes(4, -4, 4, -4), wholes(0, 7, 0, -7, 0),
		{minus(1), whole(1), minus(1)}, wholes(1, 2, 4, 8, 16, 32),
	}
	for _, n := range []int{1, 2, 3, 5, 8} {
		l = append(l, s.bigs(n))
	}
	return l
}

func TestFold(t *testing.T) {
	l, by := folded(), bys()
	together(len(l), func(i int) {
		ps := all(l[i])
		for j, x := range by {
			what := fmt.Sprintf("%v by %v", l[i], x)
			want(t, what, commit.Fold(ps, el(x)), foldNumbers(l[i], x))
			if j%3 == 0 {
				want(t, what+", told by other values", commit.Fold(others(ps, j), el(x)), foldNumbers(l[i], x))
			}
		}
	})
}

func TestFoldEl(t *testing.T) {
	for _, l := range folded() {
		for _, x := range bys() {
			wantEl(t, fmt.Sprintf("%v by %v", l, x), commit.FoldEl(els(l), el(x)), foldNumbers(l, x))
		}
	}
}

// By 0 it is the first one, by 1 the sum, by -1 each one less the next.
func TestFoldsBySmallScalars(t *testing.T) {
	c := group.Curve1()
	for _, l := range folded() {
		ps, xs, first := all(l), els(l), fr.El{}
		var sum, turns group.G1
		var sumEl, turnsEl fr.El
		for i, p := range ps {
			sum, sumEl = c.Add(sum, p), sumEl.Add(xs[i])
			if i%2 == 0 {
				turns, turnsEl = c.Add(turns, p), turnsEl.Add(xs[i])
			} else {
				turns, turnsEl = c.Add(turns, c.Neg(p)), turnsEl.Sub(xs[i])
			}
		}
		far := group.G1{}
		if len(l) > 0 {
			far, first = ps[0], xs[0]
		}
		wantSame(t, fmt.Sprint(l, " by 0"), commit.Fold(ps, fr.El{}), far)
		wantSame(t, fmt.Sprint(l, " by 1"), commit.Fold(ps, fr.Of(1)), sum)
		wantSame(t, fmt.Sprint(l, " by -1"), commit.Fold(ps, fr.Of(-1)), turns)
		if commit.FoldEl(xs, fr.El{}) != first || commit.FoldEl(xs, fr.Of(1)) != sumEl || commit.FoldEl(xs, fr.Of(-1)) != turnsEl {
			t.Errorf("%v: %v, %v, %v", l, commit.FoldEl(xs, fr.El{}), commit.FoldEl(xs, fr.Of(1)), commit.FoldEl(xs, fr.Of(-1)))
		}
	}
}

func TestSmallFolds(t *testing.T) {
	want(t, "1, 2, 3 by 10", commit.Fold(all(wholes(1, 2, 3)), fr.Of(10)), whole(321))
	wantEl(t, "1, 2, 3 by 10", commit.FoldEl(els(wholes(1, 2, 3)), fr.Of(10)), whole(321))
	wantPoly(t, "1 + 2 Z, 3, 4 Z^2 by 10", commit.FoldPoly(polys([][]*big.Int{wholes(1, 2), wholes(3), wholes(0, 0, 4)}), fr.Of(10)), wholes(31, 2, 400))
	wantPoly(t, "1, 2 Z by 10", commit.FoldPoly(polys([][]*big.Int{wholes(1), wholes(0, 2)}), fr.Of(10)), wholes(1, 20))
}

func TestFoldsOfNone(t *testing.T) {
	for _, x := range bys() {
		for _, none := range [][]group.G1{nil, {}} {
			want(t, fmt.Sprint("by ", x), commit.Fold(none, el(x)), whole(0))
		}
		for _, none := range [][]fr.El{nil, {}} {
			wantEl(t, fmt.Sprint("by ", x), commit.FoldEl(none, el(x)), whole(0))
		}
		for _, none := range [][][]fr.El{nil, {}, {nil}, {{}, nil}, {{{}}, {{}, {}}, nil}} {
			wantPoly(t, fmt.Sprint("by ", x), commit.FoldPoly(none, el(x)), nil)
		}
	}
}

// foldedLists are polynomials to fold: none, one and more, of unlike lengths, empty
// ones, and with zeros at the end.
func foldedLists() [][][]*big.Int {
	s := numbers{state: 9}
	l := [][][]*big.Int{
		nil, {}, {nil}, {{}}, {zeros(1)}, {zeros(4)}, {nil, nil, nil}, {zeros(2), nil, zeros(3)},
		{wholes(7)}, {wholes(7, 0)}, {wholes(0, 7, 0, 0)}, {nil, wholes(7)}, {wholes(7), nil}, {zeros(5), wholes(1, 2), zeros(9)},
		{wholes(1, 2, 3), wholes(4)}, {wholes(4), wholes(1, 2, 3)}, {wholes(1), wholes(0, 1), wholes(0, 0, 1), wholes(0, 0, 0, 1)},
		{wholes(0, 0, 0, 1), wholes(0, 0, 1), wholes(0, 1), wholes(1)}, {longer(wholes(1, 2), 3), longer(wholes(3, 4, 5), 1), wholes(6)},
		{s.bigs(3)}, {longer(s.bigs(3), 2)}, {s.bigs(4), s.bigs(4)}, {s.bigs(2), s.bigs(7), nil, s.bigs(5)}, {s.bigs(9), s.bigs(1), s.bigs(12), s.bigs(3), s.bigs(12)},
	}
	return append(l, some(4), some(9))
}

func TestFoldPoly(t *testing.T) {
	for i, l := range foldedLists() {
		for _, x := range bys() {
			wantPoly(t, fmt.Sprintf("the lists %d by %v", i, x), commit.FoldPoly(polys(l), el(x)), foldLists(l, x))
		}
	}
}

// What is highest comes to 0, and what is below it too, place by place.
func TestFoldPolyThatUndo(t *testing.T) {
	s := numbers{state: 10}
	for _, x := range bys() {
		if mod(x).Sign() == 0 {
			continue
		}
		p, per := s.bigs(6), new(big.Int).ModInverse(mod(x), r)
		for left := range 7 {
			q := zeros(6) // the negative one of p, by x, but for what is left
			for i := range q {
				q[i] = times(per, new(big.Int).Neg(p[i]))
			}
			for i := range left {
				q[i] = s.big()
			}
			for zero := range 3 {
				what := fmt.Sprintf("%d left, by %v", left, x)
				lists := [][]*big.Int{longer(p, zero), longer(q, 2-zero)}
				got := commit.FoldPoly(polys(lists), el(x))
				wantPoly(t, what, got, foldLists(lists, x))
				if len(got) != left {
					t.Errorf("%s: %d scalars", what, len(got))
				}
			}
			third := [][]*big.Int{nil, p, q, wholes(3)}
			if got := commit.FoldPoly(polys(third), el(x)); len(got) != max(1, left) {
				t.Errorf("%d left, by %v, behind none: %d scalars", left, x, len(got))
			}
		}
		wantPoly(t, fmt.Sprint("1 and -1 / x by ", x), commit.FoldPoly([][]fr.El{els(wholes(0, 1)), {{}, el(new(big.Int).Neg(per))}}, el(x)), nil)
	}
	wantPoly(t, "1 + Z, 2 - Z by 1", commit.FoldPoly(polys([][]*big.Int{wholes(1, 1), wholes(2, -1)}), fr.Of(1)), wholes(3))
	wantPoly(t, "1 + Z^2, 2 + Z^2 by -1", commit.FoldPoly(polys([][]*big.Int{wholes(1, 0, 1), wholes(2, 0, 1)}), fr.Of(-1)), wholes(-1))
	wantPoly(t, "Z, Z, Z, Z by -1", commit.FoldPoly(polys(slices.Repeat([][]*big.Int{wholes(0, 1)}, 4)), fr.Of(-1)), nil)
}

// Folds of many.
func TestLongFolds(t *testing.T) {
	s := numbers{state: 11}
	x := s.big()
	l := s.bigs(300)
	wantEl(t, "300", commit.FoldEl(els(l), el(x)), foldNumbers(l, x))
	var ps []group.G1
	few := all(l[:7])
	sum := new(big.Int)
	for i := range 60 {
		ps = append(ps, few[i%7])
		sum = plus(sum, times(l[i%7], raised(x, i)))
	}
	want(t, "60", commit.Fold(ps, el(x)), sum)
	var lists [][]*big.Int
	for i := range 40 {
		lists = append(lists, l[i:i+1+(i*11)%37])
	}
	wantPoly(t, "40", commit.FoldPoly(polys(lists), el(x)), foldLists(lists, x))
	ones := els(slices.Repeat(wholes(1), 5000)) // (x^5000 - 1) / (x - 1)
	wantEl(t, "5000", commit.FoldEl(ones, el(x)).Mul(el(x).Sub(fr.Of(1))), new(big.Int).Sub(raised(x, 5000), whole(1)))
}

// Points that are not of the group go by the scalars' numbers: x^2 is a scalar, and not
// x times x. (2, 3) has the order 6.
func TestFoldGoesByTheNumbers(t *testing.T) {
	c, p := group.Curve1(), outside()
	for _, x := range bys() {
		var sum group.G1
		ps := []group.G1{p, p, c.Neg(p), c.Add(p, gen), {}, p}
		for i, o := range ps {
			sum = c.Add(sum, c.Mul(o, el(raised(x, i)).Nat()))
		}
		wantSame(t, fmt.Sprint("by ", x), commit.Fold(ps, el(x)), sum)
	}
}

// Points told by several values, such as are each other's negatives among them.
func TestFoldOfSeveralValues(t *testing.T) {
	c := group.Curve1()
	for _, k := range wholes(0, 1, 5) {
		l := several(told.tell(k))
		for i, p := range l {
			for j, o := range l {
				what := fmt.Sprintf("the values %d, %d of %v", i, j, k)
				want(t, what+" by 1", commit.Fold([]group.G1{p, o}, fr.Of(1)), times(whole(2), k))
				want(t, what+" by -1", commit.Fold([]group.G1{p, o}, fr.Of(-1)), whole(0))
				want(t, what+" and its negative", commit.Fold([]group.G1{p, c.Neg(o), o}, fr.Of(1)), k)
				want(t, what+" by 3", commit.Fold([]group.G1{p, c.Neg(o), p}, fr.Of(3)), times(whole(7), k))
			}
		}
	}
}
