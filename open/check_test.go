package open_test

import (
	"fmt"
	"math/big"
	"slices"
	"testing"

	"marlinspike/api"
	"marlinspike/fq2"
	"marlinspike/fr"
	"marlinspike/group"
	"marlinspike/open"
	"marlinspike/pairing"
	"marlinspike/srs"
)

// P20.2.

// drawnAnswers are openings of all kinds: of nothing but 0, of one thing that is not, of
// small numbers, of others.
func drawnAnswers() (l []answer) {
	s := numbers{state: 11}
	for i := range 8 {
		l = append(l, answer{whole(int64(i & 1)), whole(int64(i & 2)), whole(int64(i & 4))})
	}
	return append(l, answer{minus(1), minus(1), minus(1)}, answer{s.big(), s.big(), s.big()}, answer{s.big(), whole(0), s.big()}, answer{whole(0), s.big(), s.big()})
}

// piecewise is what an opening leaves, one point behind the other.
func piecewise(s *srs.SRS, p group.G1, z fr.El, o open.Opening) group.G1 {
	c := group.Curve1()
	p = c.Add(p, c.Neg(group.Mul1(s.Powers[0], o.V)))
	p = c.Add(p, c.Neg(group.Mul1(s.Blinds[0], o.B)))
	return c.Add(p, group.Mul1(o.W, z))
}

func TestLeft(t *testing.T) {
	setups := append(loose(), expsOf(whole(2), whole(3), 2), expsOf(number(great1), number(great2), 1))
	source := numbers{state: 12}
	cs := append(wholes(0, 1, 4), minus(1), source.big())
	together(len(setups), func(i int) {
		x, s := setups[i], setups[i].setup()
		zs := places(x.tau)
		for j, a := range drawnAnswers() {
			for k, z := range zs {
				c := cs[(i+j+k)%len(cs)]
				what := fmt.Sprintf("%v of %v at %v by the setup %d", a, c, z, i)
				got := left(t, what, s, told.tell(c), el(z), a.opening())
				want(t, what, got, x.left(c, z, a))
				wantSame(t, what+", point by point", got, piecewise(s, told.tell(c), el(z), a.opening()))
			}
			c, z := cs[(i+j)%len(cs)], zs[j%len(zs)]
			by := a.opening()
			by.W = several(by.W)[j%ways]
			what := fmt.Sprintf("%v of %v at %v by the setup %d, by other values", a, c, z, i)
			want(t, what, left(t, what, other(s, j%ways), several(told.tell(c))[(i+j)%ways], el(z), by), x.left(c, z, a))
		}
	})
}

// Nothing but the first power and the first blind plays a part, and in Left Tau does not.
func TestTheFirstPointsAlone(t *testing.T) {
	a, c, z := answer{whole(5), whole(7), whole(11)}, whole(13), whole(17)
	wanted := whole(13 - 2*5 - 3*7 + 11*17)
	var l []question
	for i, x := range []exps{
		{wholes(2), wholes(3), whole(4)}, {wholes(2, 0), wholes(3, 0), whole(4)}, {wholes(2, 5, 9), wholes(3, 1, 1), whole(4)}, {wholes(2, 2, 2), wholes(3, 3, 3), whole(0)},
	} {
		s := x.setup()
		want(t, fmt.Sprint("by the setup ", i), left(t, "by it", s, told.tell(c), el(z), a.opening()), wanted)
		s.Tau = group.G2{}
		want(t, fmt.Sprint("without Tau, ", i), left(t, "by it", s, told.tell(c), el(z), a.opening()), wanted)
		x.tau = times(wanted, new(big.Int).ModInverse(a.w, r)) // then it holds
		l = append(l, ask(fmt.Sprint("by the setup ", i), x, c, z, a))
		x.tau = plus(x.tau, whole(1))
		l = append(l, ask(fmt.Sprint("by another Tau, ", i), x, c, z, a))
	}
	hold(t, l, 4)
	wantAnswers(t, l)
}

// What is left of points that are not of the group goes by the scalars' numbers: (2, 3)
// has the order 6, and r by 6 is 1.
func TestLeftGoesByTheNumbers(t *testing.T) {
	c, p := group.Curve1(), outside()
	so := func(k int64) group.G1 { return c.Mul(p, []uint64{uint64((k%6 + 6) % 6)}) }
	for n := range int64(7) {
		for _, k := range []struct {
			el  fr.El
			by6 int64
		}{{fr.Of(n), n}, {fr.Of(-1 - n), 6 - n}} {
			for i, x := range []struct {
				power, blind, c group.G1
				o               open.Opening
				z               fr.El
				left            group.G1
			}{
				{p, gen, group.G1{}, open.Opening{V: k.el}, fr.Of(4), so(-k.by6)},
				{gen, p, group.G1{}, open.Opening{B: k.el}, fr.Of(4), so(-k.by6)},
				{gen, gen, group.G1{}, open.Opening{W: p}, k.el, so(k.by6)},
				{gen, gen, so(n), open.Opening{W: gen}, fr.El{}, so(n)},
				{p, p, p, open.Opening{V: k.el, B: k.el, W: p}, k.el, so(1 - k.by6)},
				{c.Add(p, gen), c.Neg(p), p, open.Opening{V: k.el, B: fr.Of(2), W: gen}, k.el, so(3 - k.by6)},
			} {
				s := &srs.SRS{Powers: []group.G1{x.power}, Blinds: []group.G1{x.blind}}
				what := fmt.Sprintf("%d, by %d, %d", n, k.by6, i)
				got := left(t, what, s, x.c, x.z, x.o)
				wantSame(t, what, got, x.left)
				wantSame(t, what+", point by point", got, piecewise(s, x.c, x.z, x.o))
			}
		}
	}
}

// changes are numbers that differ from one.
func changes(k *big.Int) []*big.Int {
	l := []*big.Int{whole(0), new(big.Int).Neg(k), plus(k, whole(1)), plus(k, minus(1)), plus(k, k), plus(k, new(big.Int).Lsh(whole(1), 252))}
	return slices.DeleteFunc(l, func(x *big.Int) bool { return mod(x).Cmp(mod(k)) == 0 })
}

// opens is what is asked of an opening: of which commitment, at which place.
type opens struct {
	c, z *big.Int
	a    answer
}

// changed are those of which just one thing is another one.
func (o opens) changed() (l []opens) {
	for _, part := range []func(*opens) **big.Int{
		func(o *opens) **big.Int { return &o.c }, func(o *opens) **big.Int { return &o.z },
		func(o *opens) **big.Int { return &o.a.v }, func(o *opens) **big.Int { return &o.a.b }, func(o *opens) **big.Int { return &o.a.w },
	} {
		for _, k := range changes(*part(&o)) {
			changed := o
			*part(&changed) = k
			l = append(l, changed)
		}
	}
	return l
}

// equal tells whether c - v - g b is w (t - z).
func (o opens) equal(t, g *big.Int) bool {
	right := times(o.a.w, new(big.Int).Sub(t, o.z))
	return plus(new(big.Int).Sub(o.c, o.a.v), new(big.Int).Neg(times(g, o.a.b))).Cmp(right) == 0
}

// Openings that hold, and such of which one thing is another one.
func TestCheck(t *testing.T) {
	source := numbers{state: 13}
	var l []question
	holds := 0
	for i, pair := range [][2]*big.Int{{whole(2), whole(3)}, {minus(1), minus(1)}, {source.big(), source.big()}} {
		tau, g := pair[0], pair[1]
		x := expsOf(tau, g, 2+i)
		for j, z := range []*big.Int{whole(0), whole(5), source.big()} {
			p, b := source.bigs(2+i), source.bigs(1+j)
			o := opens{x.commitment(p, b), z, x.opening(p, b, z)}
			l = append(l, ask(fmt.Sprintf("of %v and %v at %v by %v", p, b, z, pair), x, o.c, o.z, o.a))
			holds++
			for k, changed := range o.changed() {
				q := ask(fmt.Sprintf("of %v and %v at %v by %v, the change %d", p, b, z, pair, k), x, changed.c, changed.z, changed.a)
				if q.is != changed.equal(tau, g) {
					t.Errorf("%s: the model", q.what)
				}
				l = append(l, q)
			}
		}
	}
	hold(t, l, holds)
	wantAnswers(t, l)
}

// What Open tells, by setups that srs makes, and the same by other values.
func TestOpenedHolds(t *testing.T) {
	pairs := pairsOf()
	var l []question
	for i, pair := range pairs {
		tau, g, n := pair[0], pair[1], 1+i%4
		s, zs, ps := made(t, tau, g, n), places(tau), some(n+1)
		for j := range 3 {
			p, b, z := els(ps[(i*3+j)%len(ps)]), els(ps[(i*5+j*7+4)%len(ps)]), el(zs[(i+j*2)%len(zs)])
			what := fmt.Sprintf("of %v and %v at %v by %v", backs(p), backs(b), back(z), pair)
			c, o := committed(t, what, s, p, b), opened(t, what, s, p, b, z)
			l = append(l, question{what, s, c, z, o, true})
			o.W = several(o.W)[(i+j)%ways]
			l = append(l, question{what + ", by other values", other(s, j), several(c)[(i+2*j)%ways], z, o, true})
			o.V = o.V.Add(fr.Of(1))
			l = append(l, question{what + ", by other values, with another V", other(s, j), several(c)[(i+2*j)%ways], z, o, false})
		}
	}
	wantAnswers(t, l)
}

// By setups that are of no two scalars the first power, the first blind and Tau say what
// holds.
func TestCheckByAnyPoints(t *testing.T) {
	var l []question
	source := numbers{state: 14}
	holds := 0
	for i, x := range loose() {
		for j := range 2 {
			a, z := answer{source.big(), source.big(), source.big()}, source.big()
			if j == 1 {
				z = x.tau
			}
			// What makes it hold: c less what the values are of both first points is w (tau - z).
			c := plus(times(a.w, x.tau), new(big.Int).Neg(x.left(whole(0), z, a)))
			l = append(l, ask(fmt.Sprintf("by the setup %d, %d", i, j), x, c, z, a))
			l = append(l, ask(fmt.Sprintf("by the setup %d, %d, of another one", i, j), x, plus(c, whole(1)), z, a))
			a.v = plus(a.v, whole(1))
			l = append(l, ask(fmt.Sprintf("by the setup %d, %d, with another V", i, j), x, c, z, a))
			holds++
			if x.powers[0].Sign() == 0 { // then V plays no part
				holds++
			}
		}
	}
	hold(t, l, holds)
	wantAnswers(t, l)
}

// Faults that undo each other: what then holds is no opening of what was committed to,
// but its equation is the same.
func TestFaultsThatUndoEachOther(t *testing.T) {
	source := numbers{state: 15}
	var l []question
	for i, pair := range [][2]*big.Int{{whole(2), whole(3)}, {source.big(), source.big()}} {
		tau, g := pair[0], pair[1]
		x := expsOf(tau, g, 2)
		p, b, z := source.bigs(3), source.bigs(2), source.big()
		for _, k := range []*big.Int{whole(1), minus(1), source.big()} {
			across := plus(tau, new(big.Int).Neg(z))
			o := opens{x.commitment(p, b), z, x.opening(p, b, z)}
			add := func(what string, c, v, y, w *big.Int) {
				n := opens{plus(o.c, c), z, answer{plus(o.a.v, v), plus(o.a.b, y), plus(o.a.w, w)}}
				l = append(l, ask(fmt.Sprintf("%s, %v by %d", what, k, i), x, n.c, n.z, n.a))
			}
			zero, less := whole(0), new(big.Int).Neg(k)
			add("of V and of B", zero, times(g, k), less, zero)
			add("of V and of B, as great", zero, k, less, zero)
			add("of C and of V", k, k, zero, zero)
			add("of C and of V, the other way", k, less, zero, zero)
			add("of C and of B", times(g, k), zero, k, zero)
			add("of C and of W", times(k, across), zero, zero, k)
			add("of V and of W", zero, new(big.Int).Neg(times(k, across)), zero, k)
			add("of all", plus(times(k, across), times(plus(g, whole(1)), k)), k, k, k)
			add("of W alone", zero, zero, zero, k)
		}
	}
	hold(t, l, 2*3*6)
	wantAnswers(t, l)
}

// At a place that is the setup's t W plays no part: whoever knows t opens by any W what
// the values are of, and by none what they are not.
func TestAtTheSecret(t *testing.T) {
	source := numbers{state: 16}
	var l []question
	for i, pair := range [][2]*big.Int{{whole(2), whole(3)}, {minus(1), whole(1)}, {source.big(), source.big()}} {
		x := expsOf(pair[0], pair[1], 1)
		v, b := source.big(), source.big()
		c := plus(v, times(pair[1], b))
		for _, w := range append(wholes(0, 1), minus(1), source.big()) {
			what := fmt.Sprintf("%v by %d", w, i)
			l = append(l, ask(what, x, c, pair[0], answer{v, b, w}), ask(what+", of another one", x, plus(c, w), pair[0], answer{plus(v, whole(1)), b, w}))
		}
	}
	hold(t, l, 3*5) // w is 1 in one of those of another one, each time
	wantAnswers(t, l)
}

// The far one as C, as W and as Tau, and scalars that are 0.
func TestFarOnes(t *testing.T) {
	x := expsOf(whole(2), whole(3), 2)
	still := exps{x.powers, x.blinds, whole(0)}
	zero, one := whole(0), whole(1)
	none := answer{zero, zero, zero}
	var l []question
	for i, z := range append(wholes(0, 1, 2, 5), minus(1)) {
		add := func(what string, x exps, c *big.Int, a answer) {
			l = append(l, ask(fmt.Sprint(what, ", ", i), x, c, z, a))
		}
		add("nothing but 0", x, zero, none)                                 // holds at all 5
		add("nothing but 0, Tau too", still, zero, none)                    // 5
		add("of another one", x, one, none)                                 // 0
		add("V alone", x, zero, answer{one, zero, zero})                    // 0
		add("B alone", x, zero, answer{zero, one, zero})                    // 0
		add("W alone", x, zero, answer{zero, zero, one})                    // at t alone
		add("V of both", x, one, answer{one, zero, zero})                   // 5
		add("B of both", x, whole(3), answer{zero, one, zero})              // 5
		add("V and B", x, zero, answer{whole(3), minus(1), zero})           // 5
		add("W, by Tau 0", still, zero, answer{zero, zero, one})            // at 0 alone
		add("W, by Tau 0, undone", still, one, answer{zero, zero, one})     // at -1 alone
		add("V and B, by Tau 0", still, whole(4), answer{one, one, zero})   // 5
		add("without z", x, whole(2), answer{zero, zero, one})              // at 0 alone
		add("V, by Tau 0, of another", still, zero, answer{one, zero, one}) // at 1 alone
	}
	hold(t, l, 6*5+5)
	wantAnswers(t, l)
	if is, e := open.Check(x.setup(), group.G1{}, fr.Of(3), open.Opening{}); !is || e != api.OK {
		t.Errorf("zero values: %v, %v", is, e)
	}
}

// One point by several values is the same point.
func TestSeveralValues(t *testing.T) {
	x := expsOf(whole(2), whole(3), 1)
	s := x.setup()
	var l []question
	for _, k := range []*big.Int{whole(0), whole(1), minus(2)} {
		// w = k, at z = 7: c = k (2 - 7) + 4 + 3 * 5
		c, z, a := plus(times(k, whole(-5)), whole(19)), fr.Of(7), answer{whole(4), whole(5), k}
		wanted := x.left(c, whole(7), a)
		for i, w := range several(told.tell(k)) {
			for j, p := range several(told.tell(c)) {
				what := fmt.Sprintf("%v by the values %d and %d", k, i, j)
				o, set := open.Opening{V: el(a.v), B: el(a.b), W: w}, other(s, (i+j)%ways)
				want(t, what, left(t, what, set, p, z, o), wanted)
				if (i+j)%2 == 0 {
					l = append(l, question{what, set, p, z, o, true})
				}
				if i == j {
					o.B = o.B.Neg()
					l = append(l, question{what + ", with another B", set, p, z, o, false})
				}
			}
		}
	}
	wantAnswers(t, l)
}

// Of points that are not of the groups, too, Check tells what the pairings are.
func TestCheckIsOfPairings(t *testing.T) {
	c, p := group.Curve1(), outside()
	away := awayFromG2(t)
	type set struct {
		s *srs.SRS
		c group.G1
		o open.Opening
	}
	var l []set
	for _, tau := range []group.G2{gen2, away, group.Curve2().Add(gen2, away)} {
		for i, w := range []group.G1{gen, p, c.Add(p, gen), c.Mul(p, []uint64{3})} {
			s := &srs.SRS{Powers: []group.G1{gen}, Blinds: []group.G1{p}, Tau: tau}
			o := open.Opening{V: fr.Of(int64(i)), B: fr.Of(1), W: w}
			l = append(l, set{s, c.Add(p, gen), o}, set{s, c.Mul(gen, []uint64{uint64(i) + 1}), o}, set{s, group.G1{}, o})
		}
	}
	held := make([]bool, len(l))
	together(len(l), func(i int) {
		x := l[i]
		for _, z := range []fr.El{fr.Of(5), {}} {
			held[i] = pairing.Pair(piecewise(x.s, x.c, z, x.o), gen2) == pairing.Pair(x.o.W, x.s.Tau)
			if is, e := open.Check(x.s, x.c, z, x.o); is != held[i] || e != api.OK {
				t.Errorf("%d at %v: %v, %v, not %v", i, back(z), is, e, held[i])
			}
		}
	})
	if !slices.Contains(held, true) || !slices.Contains(held, false) {
		t.Errorf("at 0 all of them are %v", held[0])
	}
}

// awayFromG2 is a point of G2's curve, y^2 = x^3 + 1 / u, that is not of the group.
func awayFromG2(t *testing.T) group.G2 {
	t.Helper()
	perU, _ := fq2.Of(0, 1).Inv()
	for n := range int64(100) {
		x := fq2.Of(n, 0)
		y, e := x.Mul(x).Mul(x).Add(perU).Sqrt()
		if e != api.OK {
			continue
		}
		if p, e := group.Curve2().Of(x, y); e == api.OK && !group.In2(p) {
			return p
		}
	}
	t.Fatal("no such point")
	return group.G2{}
}

// A setup that is nil comes first, then one whose lists may not be, whatever else is asked.
func TestOtherErrorsInOrder(t *testing.T) {
	setups := append(badSetups(t), nil)
	for i, s := range setups {
		e := api.ErrArg
		if s == nil {
			e = api.ErrNil
		}
		for j, c := range []group.G1{{}, gen, outside()} {
			for k, z := range []fr.El{{}, fr.Of(2), fr.Of(-1)} {
				for n, o := range []open.Opening{{}, {V: fr.Of(1), B: fr.Of(2), W: gen}, {B: fr.Of(-1)}, {W: outside()}} {
					refuseOther(t, fmt.Sprintf("by the bad setup %d, %d, %d, %d", i, j, k, n), s, c, z, o, e)
				}
			}
		}
	}
}

// The greatest setup that srs makes, and a longer one: nothing but its first points count.
func TestCheckByLongSetups(t *testing.T) {
	for _, n := range []int{api.MaxPower, api.MaxDomain + 9} {
		s := &srs.SRS{Powers: slices.Repeat([]group.G1{gen}, n+1), Blinds: slices.Repeat([]group.G1{told.tell(whole(3))}, n+1), Tau: told2.tell(whole(2))}
		// c - v - 3 b = w (2 - z): 20 - 10 - 15 = 5 (2 - 3)
		o := open.Opening{V: fr.Of(10), B: fr.Of(5), W: told.tell(whole(5))}
		other := o
		other.B = fr.Of(6)
		wantAnswers(t, []question{{"it", s, told.tell(whole(20)), fr.Of(3), o, true}, {"with another B", s, told.tell(whole(20)), fr.Of(3), other, false}})
	}
}
