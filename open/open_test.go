package open_test

import (
	"encoding/hex"
	"fmt"
	"math/big"
	"slices"
	"testing"

	"marlinspike/api"
	"marlinspike/fr"
	"marlinspike/group"
	"marlinspike/open"
	"marlinspike/points"
	"marlinspike/srs"
)

// P20.1, and the forms of all calls, which are a part of the promises.
var (
	_ func(s *srs.SRS, p, b []fr.El, z fr.El) (open.Opening, api.Errno)           = open.Open
	_ func(s *srs.SRS, c group.G1, z fr.El, o open.Opening) (group.G1, api.Errno) = open.Left
	_ func(s *srs.SRS, c group.G1, z fr.El, o open.Opening) (bool, api.Errno)     = open.Check
)

var _ = struct {
	V, B fr.El
	W    group.G1
}(open.Opening{})

// wantText fails if a point has not these bytes, told by 16.
func wantText(t *testing.T, what string, p group.G1, text string) {
	t.Helper()
	if b := points.Put1(p); hex.EncodeToString(b[:]) != text {
		t.Errorf("%s: it is %x, not %s", what, b, text)
	}
}

// What the tests hold the program against is held against what was worked out apart.
func TestModel(t *testing.T) {
	l := setupsApart()
	for _, x := range opensApart() {
		s, p, b, z := l[x.name], pApart(x.ps), bApart(x.bs), number(x.z)
		a := s.opening(p, b, z)
		left := s.left(s.commitment(p, b), z, a)
		if a.v.Cmp(number(x.v)) != 0 || a.b.Cmp(number(x.b)) != 0 {
			t.Errorf("%v: they are %x, %x", x, a.v, a.b)
		}
		if hex.EncodeToString(texts.tell(a.w)) != x.w || hex.EncodeToString(texts.tell(left)) != x.left {
			t.Errorf("%v: they are %x, %x", x, texts.tell(a.w), texts.tell(left))
		}
		if s.holds(s.commitment(p, b), z, a) != (x.name != "loose") {
			t.Errorf("%v: whether it holds", x)
		}
	}
}

func TestToldApart(t *testing.T) {
	l := setupsApart()
	for _, x := range opensApart() {
		what, s, p, b, z := fmt.Sprint(x), l[x.name].setup(), els(pApart(x.ps)), els(bApart(x.bs)), el(number(x.z))
		o := opened(t, what, s, p, b, z)
		wantEl(t, what+": V", o.V, number(x.v))
		wantEl(t, what+": B", o.B, number(x.b))
		wantText(t, what+": W", o.W, x.w)
		wantText(t, what+": what it leaves", left(t, what, s, committed(t, what, s, p, b), z, o), x.left)
	}
}

func TestExamples(t *testing.T) {
	s, p, b := made(t, whole(2), whole(3), 2), wholes(1, 0, 1), wholes(5)
	wantOpened(t, "Open", s, p, b, whole(3), answer{whole(10), whole(5), whole(5)})
	o, c := opened(t, "Open", s, els(p), els(b), fr.Of(3)), committed(t, "Open", s, els(p), els(b))
	other := o
	other.V = fr.Of(11)
	wantAnswers(t, []question{{"Check of it", s, c, fr.Of(3), o, true}, {"with V 11", s, c, fr.Of(3), other, false}})
}

// pairsOf are pairs of scalars, each of them in several.
func pairsOf() (l [][2]*big.Int) {
	all := scalars()
	for i, t := range all {
		l = append(l, [2]*big.Int{t, all[(i*5+3)%len(all)]})
	}
	return append(l, [2]*big.Int{whole(2), whole(2)}, [2]*big.Int{minus(1), minus(1)})
}

// places are some of all kinds: 0, 1, -1, a setup's secret and its negative, others.
func places(tau *big.Int) []*big.Int {
	s := numbers{state: 8}
	return append(wholes(0, 1, 3, 1<<40), minus(1), tau, new(big.Int).Neg(tau), s.big(), s.big())
}

// By setups of two scalars W is the generator as often as the quotients are worth at t,
// that of the blinding one g times.
func TestOpen(t *testing.T) {
	pairs := pairsOf()
	together(len(pairs), func(i int) {
		tau, g, n := pairs[i][0], pairs[i][1], 1+i%5
		s, l, zs := made(t, tau, g, n), some(n+1), places(tau)
		for j, p := range l {
			b, z := l[(j*3+i)%len(l)], zs[(i+j)%len(zs)]
			w := plus(worth(quotient(p, z), tau), times(g, worth(quotient(b, z), tau)))
			what := fmt.Sprintf("of %v and %v at %v by %v, %v, %d", p, b, z, tau, g, n)
			wantOpened(t, what, s, p, b, z, answer{worth(p, z), worth(b, z), w})
		}
	})
}

// Every polynomial at every place.
func TestPlaces(t *testing.T) {
	for _, pair := range [][2]*big.Int{{whole(2), whole(3)}, {minus(1), whole(7)}, {whole(1), whole(1)}, {number(great1), number(great2)}} {
		x := expsOf(pair[0], pair[1], 3)
		s, l, zs := x.setup(), some(4), places(pair[0])
		together(len(zs), func(i int) {
			for j, p := range l {
				b := l[(j*7+i)%len(l)]
				wantOpened(t, fmt.Sprintf("of %v and %v at %v by %v", p, b, zs[i], pair), s, p, b, zs[i], x.opening(p, b, zs[i]))
			}
		})
	}
}

// loose are setups that are of no two scalars: any points, the far one, alike ones and
// each other's negatives among them.
func loose() []exps {
	s := numbers{state: 2}
	return []exps{
		{wholes(0), wholes(0), whole(0)}, {wholes(5), wholes(7), whole(1)}, {s.bigs(1), s.bigs(1), s.big()},
		{wholes(0, 0, 0), wholes(0, 0, 0), whole(2)}, {wholes(1, 1, 1), wholes(1, 1, 1), minus(1)}, {wholes(1, -1, 1, -1), wholes(-1, 1, -1, 1), whole(0)},
		{wholes(0, 1, 0, 2), wholes(3, 0, 4, 0), whole(3)}, {wholes(2, 4, 8, 16), wholes(1, 1, 2, 3), whole(2)}, {wholes(3, 6, 12), wholes(1, 2, 4), whole(2)},
		{s.bigs(2), s.bigs(2), s.big()}, {s.bigs(3), wholes(0, 1, 0), s.big()}, {wholes(1, 0, -1), s.bigs(3), s.big()}, {s.bigs(6), s.bigs(6), s.big()}, {s.bigs(9), s.bigs(9), s.big()},
	}
}

// byPoints are the quotients' scalars times a setup's points, together one by one.
func byPoints(s *srs.SRS, p, b []*big.Int, z *big.Int) (sum group.G1) {
	for i, k := range quotient(p, z) {
		sum = group.Curve1().Add(sum, group.Mul1(s.Powers[i], el(k)))
	}
	for i, k := range quotient(b, z) {
		sum = group.Curve1().Add(sum, group.Mul1(s.Blinds[i], el(k)))
	}
	return sum
}

func TestOpenByAnyPoints(t *testing.T) {
	setups := loose()
	together(len(setups), func(i int) {
		x, s := setups[i], setups[i].setup()
		l, zs := some(len(x.powers)), places(whole(9))
		for j, p := range l {
			b, z := l[(j*7+i)%len(l)], zs[(i+j)%len(zs)]
			what := fmt.Sprintf("of %v and %v at %v by the setup %d", p, b, z, i)
			a := x.opening(p, b, z)
			wantOpened(t, what, s, p, b, z, a)
			wantOpened(t, what+", by other values", other(s, j%ways), p, b, z, a)
			wantOpened(t, what+", without Tau", &srs.SRS{Powers: s.Powers, Blinds: s.Blinds}, p, b, z, a)
			wantSame(t, what+", point by point", opened(t, what, s, els(p), els(b), el(z)).W, byPoints(s, p, b, z))
		}
	})
}

// Of Z^n the quotient is Z^(n - 1) + z Z^(n - 2) + ..: each power and each blind counts
// by its own scalar alone, and the last of both not at all.
func TestEachPlace(t *testing.T) {
	x := exps{wholes(2, 3, 5, 7, 11, 13), wholes(17, 19, 23, 29, 31, 37), whole(2)}
	s := x.setup()
	for _, z := range []*big.Int{whole(0), whole(1), whole(10), minus(1), number(great1)} {
		for n := range x.powers {
			one, v := append(zeros(n), whole(1)), raised(z, n)
			power, blind := new(big.Int), new(big.Int)
			for i := range n {
				power = plus(power, times(x.powers[i], raised(z, n-1-i)))
				blind = plus(blind, times(x.blinds[i], raised(z, n-1-i)))
			}
			what := fmt.Sprintf("Z^%d at %v", n, z)
			wantOpened(t, what, s, one, nil, z, answer{v, whole(0), power})
			wantOpened(t, what+", blinding", s, nil, one, z, answer{whole(0), v, blind})
			wantOpened(t, what+", both", s, one, one, z, answer{v, v, plus(power, blind)})
		}
	}
}

// product is the polynomial (Z - a) (Z - b) .. k.
func product(k *big.Int, roots ...*big.Int) []*big.Int {
	p := []*big.Int{k}
	for _, a := range roots {
		less := longer(p, 1)
		p = slices.Insert(slices.Clone(p), 0, whole(0))
		for i, y := range less {
			p[i] = plus(p[i], new(big.Int).Neg(times(a, y)))
		}
	}
	return p
}

// At a root the polynomial is worth 0, and W is the commitment to all but that root.
func TestRoots(t *testing.T) {
	s := numbers{state: 9}
	tau := s.big()
	roots := append(wholes(0, 1, -1, 5, 5), tau, s.big())
	x := expsOf(tau, s.big(), len(roots))
	o := x.setup()
	for i, z := range roots {
		rest := slices.Delete(slices.Clone(roots), i, i+1)
		p, q, k := product(whole(3), roots...), product(minus(2), z), s.big()
		what := fmt.Sprint("the root ", i)
		wantOpened(t, what, o, p, nil, z, answer{whole(0), whole(0), x.commitment(product(whole(3), rest...), nil)})
		wantOpened(t, what+", blinding", o, nil, p, z, answer{whole(0), whole(0), x.commitment(nil, product(whole(3), rest...))})
		wantOpened(t, what+", of both", o, p, q, z, answer{whole(0), whole(0), x.commitment(product(whole(3), rest...), wholes(-2))})
		p[0] = plus(p[0], k)
		wantOpened(t, what+", and k", o, p, q, z, answer{k, whole(0), x.commitment(product(whole(3), rest...), wholes(-2))})
	}
}

// Of constants there is nothing to divide, at any place.
func TestConstants(t *testing.T) {
	setups := append(loose(), expsOf(whole(2), whole(3), 3))
	for i, x := range setups {
		s := x.setup()
		for j, z := range places(whole(2)) {
			for _, n := range []int{0, 1, 9} {
				for _, k := range []*big.Int{whole(0), whole(1), minus(1), number(great1)} {
					what := fmt.Sprintf("%v, %d zeros, at %d by the setup %d", k, n, j, i)
					one := longer([]*big.Int{k}, n)
					wantOpened(t, what, s, one, nil, z, answer{k, whole(0), whole(0)})
					wantOpened(t, what+", blinding", s, nil, one, z, answer{whole(0), k, whole(0)})
					wantOpened(t, what+", both", s, one, longer(wholes(6), n), z, answer{k, whole(6), whole(0)})
					if o := opened(t, what, s, els(one), els(one), el(z)); !group.Curve1().Same(o.W, group.G1{}) {
						t.Errorf("%s: W is not the far one", what)
					}
				}
			}
		}
	}
}

// of are polynomials of just this degree: with nothing but the highest scalar, with
// nothing that is 0, and with zeros at the end.
func of(degree int) [][]*big.Int {
	s := numbers{state: uint64(degree)}
	high := append(zeros(degree), minus(1))
	full := s.bigs(degree + 1)
	return [][]*big.Int{high, full, longer(high, 1), longer(full, 1), longer(full, 40)}
}

// p alone, b alone, and both of the degree D and of more.
func TestDegrees(t *testing.T) {
	s := numbers{state: 3}
	for degree := range 6 {
		x := exps{s.bigs(degree + 1), s.bigs(degree + 1), s.big()}
		o, z := x.setup(), s.big()
		for i, p := range of(degree) {
			what := fmt.Sprintf("of the degree %d, %d", degree, i)
			wantOpened(t, what+": p", o, p, nil, z, x.opening(p, nil, z))
			wantOpened(t, what+": b", o, nil, p, z, x.opening(nil, p, z))
			wantOpened(t, what+": both", o, p, p, z, x.opening(p, p, z))
		}
		for _, more := range []int{1, 2, 30} {
			for i, p := range of(degree + more) {
				what := fmt.Sprintf("of the degree %d by one of %d, %d", degree+more, degree, i)
				fits := of(degree)[i]
				for _, z := range []*big.Int{z, whole(0), whole(1)} {
					refuse(t, what+": p", o, p, nil, z, api.ErrDegree)
					refuse(t, what+": b", o, nil, p, z, api.ErrDegree)
					refuse(t, what+": both", o, p, p, z, api.ErrDegree)
					refuse(t, what+": p, and b fits", o, p, fits, z, api.ErrDegree)
					refuse(t, what+": b, and p fits", o, fits, p, z, api.ErrDegree)
				}
			}
		}
	}
}

// Lists that are longer than the setup, of polynomials that are not.
func TestZerosAtTheEnd(t *testing.T) {
	x := exps{wholes(2, 3, 5), wholes(7, 11, 13), whole(2)}
	s, z := x.setup(), whole(10)
	for _, n := range []int{0, 1, 2, 3, 4, 5, 9, 100, 70000} {
		none := zeros(n)
		for i, c := range []struct {
			p, b    []*big.Int
			v, y, w int64
		}{
			{none, nil, 0, 0, 0}, {nil, none, 0, 0, 0}, {none, none, 0, 0, 0},
			{longer(wholes(1, 0, 1), n), none, 101, 0, 23}, // Z + 10
			{none, longer(wholes(0, 1), n), 0, 10, 7},
			{longer(wholes(4), n), longer(wholes(0, 0, 1), n), 4, 100, 81},
		} {
			wantOpened(t, fmt.Sprintf("%d zeros, %d", n, i), s, c.p, c.b, z, answer{whole(c.v), whole(c.y), whole(c.w)})
		}
		refuse(t, fmt.Sprintf("%d zeros, and one more", n), s, append(longer(zeros(3), n), whole(1)), nil, z, api.ErrDegree)
		refuse(t, fmt.Sprintf("%d zeros, and one more behind the blinds", n), s, nil, append(longer(zeros(3), n), whole(1)), z, api.ErrDegree)
	}
}

// One power and one blind.
func TestSetupsOfTheDegree0(t *testing.T) {
	for _, x := range []exps{{wholes(1), wholes(3), whole(2)}, {wholes(0), wholes(5), whole(0)}, {wholes(4), wholes(0), whole(1)}, {wholes(-1), wholes(1), whole(-1)}} {
		s := x.setup()
		for _, z := range places(whole(2)) {
			wantOpened(t, "nothing", s, nil, nil, z, answer{whole(0), whole(0), whole(0)})
			wantOpened(t, "6 and 7", s, wholes(6), longer(wholes(7), 3), z, answer{whole(6), whole(7), whole(0)})
			wantOpened(t, "1 and 1", s, wholes(1, 0), wholes(1), z, answer{whole(1), whole(1), whole(0)})
			refuse(t, "Z", s, wholes(0, 1), nil, z, api.ErrDegree)
			refuse(t, "Z, blinding", s, nil, wholes(0, 1), z, api.ErrDegree)
			refuse(t, "Z and 1", s, wholes(1, 1, 0), wholes(1), z, api.ErrDegree)
		}
	}
}

// badSetups are those that are refused, whatever is asked of them.
func badSetups(t *testing.T) (l []*srs.SRS) {
	long := made(t, whole(2), whole(3), 4)
	for powers := range 6 {
		for blinds := range 6 {
			if powers != blinds || powers == 0 {
				l = append(l, cut(long, powers, blinds))
			}
		}
	}
	l = append(l, &srs.SRS{}, &srs.SRS{Powers: []group.G1{}}, &srs.SRS{Blinds: []group.G1{}}, &srs.SRS{Powers: []group.G1{}, Blinds: []group.G1{}, Tau: gen2})
	return append(l, &srs.SRS{Powers: []group.G1{gen}}, &srs.SRS{Blinds: []group.G1{gen}}, &srs.SRS{Powers: long.Powers, Blinds: slices.Concat(long.Blinds, long.Blinds), Tau: long.Tau})
}

// A setup that is nil comes first, then one whose lists may not be, then degrees.
func TestErrorsInOrder(t *testing.T) {
	setups := append(badSetups(t), nil)
	for i, s := range setups {
		e := api.ErrArg
		if s == nil {
			e = api.ErrNil
		}
		for _, p := range [][]*big.Int{nil, {}, zeros(1), zeros(20), wholes(1), wholes(0, 1), wholes(1, 2, 3), of(3)[1], of(4)[1], of(5)[1], of(40)[0]} {
			for _, b := range [][]*big.Int{nil, zeros(20), wholes(7), of(3)[1], of(40)[0]} {
				for _, z := range []*big.Int{whole(0), whole(2), minus(1)} {
					refuse(t, fmt.Sprintf("of %v and %v by the bad setup %d", p, b, i), s, p, b, z, e)
				}
			}
		}
	}
}

// Of lists of one length each that lie in longer ones: what is behind their ends is none
// of the setup.
func TestCutSetups(t *testing.T) {
	x, s := expsOf(whole(2), whole(3), 5), made(t, whole(2), whole(3), 5)
	p, b, z := wholes(4, -3, 6, 2, 1, 9), wholes(-2, 8, 5, 0, 0, 7), whole(11)
	for n := 1; n < 7; n++ {
		o := cut(s, n, n)
		wantOpened(t, fmt.Sprint("of ", n), o, p[:n], b[:n], z, exps{x.powers[:n], x.blinds[:n], x.tau}.opening(p[:n], b[:n], z))
		if n < 6 {
			refuse(t, fmt.Sprint("too much, of ", n), o, p[:n+1], nil, z, api.ErrDegree)
			refuse(t, fmt.Sprint("too much blinding, of ", n), o, nil, append(b[:n:n], whole(1)), z, api.ErrDegree)
		}
	}
}

// Points that are not of the group go by the scalars' numbers: (2, 3) has the order 6,
// and r by 6 is 1.
func TestOpenGoesByTheNumbers(t *testing.T) {
	c, p := group.Curve1(), outside()
	s := &srs.SRS{Powers: []group.G1{p, gen, p}, Blinds: []group.G1{p, p, c.Neg(p)}}
	for n := range int64(13) {
		so := func(k int64) group.G1 { return c.Mul(p, []uint64{uint64(k % 6)}) }
		for _, z := range []fr.El{{}, fr.Of(3), fr.Of(-1)} {
			w := func(p, b []*big.Int) group.G1 { return opened(t, "", s, els(p), els(b), z).W }
			wantSame(t, fmt.Sprint("the power, ", n), w(wholes(7, n), nil), so(n))
			wantSame(t, fmt.Sprint("the power, r less ", n+1), w([]*big.Int{whole(1), minus(n + 1)}, nil), so(12-n))
			wantSame(t, fmt.Sprint("the blind, ", n), w(nil, wholes(5, n)), so(n))
		}
		wantSame(t, fmt.Sprint("both, ", n), opened(t, "", s, els(wholes(9, n, 1)), els(wholes(1, 1, 1)), fr.El{}).W, c.Add(gen, so(n+2)))
	}
}

// counted is a setup whose i-th power is i + 1 times the generator, and whose i-th blind
// three times as often.
func counted(n int) *srs.SRS {
	c, three := group.Curve1(), told.tell(whole(3))
	s := &srs.SRS{Powers: []group.G1{gen}, Blinds: []group.G1{three}}
	for i := range n {
		s.Powers = append(s.Powers, c.Add(s.Powers[i], gen))
		s.Blinds = append(s.Blinds, c.Add(s.Blinds[i], three))
	}
	return s
}

// countedOpening is an opening by it.
func countedOpening(p, b []*big.Int, z *big.Int) answer {
	w := new(big.Int)
	for i, k := range quotient(p, z) {
		w.Add(w, new(big.Int).Mul(k, whole(int64(i+1))))
	}
	for i, k := range quotient(b, z) {
		w.Add(w, new(big.Int).Mul(k, whole(3*int64(i+1))))
	}
	return answer{worth(p, z), worth(b, z), mod(w)}
}

// The greatest setup that srs makes.
func TestTheGreatestSetup(t *testing.T) {
	n := api.MaxPower
	s, source := counted(n), numbers{state: 6}
	p, b, z := source.bigs(n+1), source.bigs(n+1), source.big()
	high := append(zeros(n), whole(-5))
	wantOpened(t, "all of it", s, p, b, z, countedOpening(p, b, z))
	wantOpened(t, "few", s, p[:3], longer(b[:2], n), z, countedOpening(p[:3], b[:2], z))
	wantOpened(t, "the highest", s, high, nil, whole(0), countedOpening(high, nil, whole(0)))
	wantOpened(t, "the highest blind", s, nil, high, whole(1), countedOpening(nil, high, whole(1)))
	refuse(t, "one more", s, append(p, whole(1)), b, z, api.ErrDegree)
	refuse(t, "one blind more", s, p, append(b, whole(1)), z, api.ErrDegree)
}

// The chapter has no bound of its own: a longer setup than those is as good.
func TestLongerSetups(t *testing.T) {
	n := api.MaxDomain + 9
	s := counted(n)
	high := append(zeros(n), whole(6))
	wantOpened(t, "few", s, wholes(1, 2, 3), wholes(4), whole(5), countedOpening(wholes(1, 2, 3), wholes(4), whole(5)))
	wantOpened(t, "the highest", s, high, wholes(1), whole(0), answer{whole(0), whole(1), whole(6 * int64(n))})
	refuse(t, "one more", s, append(high, whole(1)), nil, whole(0), api.ErrDegree)
}
