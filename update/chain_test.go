package update_test

import (
	"fmt"
	"math/big"
	"slices"
	"testing"

	"marlinspike/api"
	"marlinspike/fq"
	"marlinspike/fq2"
	"marlinspike/group"
	"marlinspike/pairing"
	"marlinspike/srs"
	"marlinspike/update"
)

// P18.2

// manyChains are chains of no step, of one, and of several.
func manyChains() (l []link) {
	all := scalars()
	for i, tau := range all {
		g, n := all[(i*5+3)%len(all)], 1+i%3
		var ds []*big.Int
		for j := range i % 5 {
			ds = append(ds, all[(i*3+j*7+1)%len(all)])
		}
		from, to := expsOf(tau, g, n), expsOf(product(append(ds, tau)...), g, n)
		l = append(l, link{fmt.Sprintf("%d steps from %v, %v, %d on", len(ds), tau, g, n), from, to, hopsOf(tau, ds...)})
	}
	return l
}

func TestChain(t *testing.T) {
	var l []question
	for _, x := range manyChains() {
		l = append(l, ask(x.what, x.from, x.to, x.hops))
	}
	some(t, l, len(l))
	wantAnswers(t, l)
}

// Of what Update tells: a chain of each part of it.
func TestChainOfUpdates(t *testing.T) {
	var l []question
	s := made(t, whole(2), whole(3), 2)
	setups, all := []*srs.SRS{s}, []update.Step{}
	for _, d := range []*big.Int{whole(5), whole(-7), whole(1), per(whole(2)), whole(1 << 40)} {
		o, step := updated(t, setups[len(setups)-1], d)
		setups, all = append(setups, o), append(all, step)
	}
	for i := range setups {
		for j := i; j < len(setups); j++ {
			l = append(l, question{fmt.Sprint("from ", i, " to ", j), setups[i], setups[j], all[i:j], api.OK})
		}
	}
	wantAnswers(t, l)
}

func TestChainExample(t *testing.T) {
	s := made(t, whole(2), whole(3), 2)
	o, x := updated(t, s, whole(5))
	none := []update.Step(nil)
	wantAnswers(t, []question{
		{"of it", s, o, []update.Step{x}, api.OK},
		{"without steps", s, o, none, api.ErrReject},
		{"itself", s, s, none, api.OK},
		{"itself, updated", o, o, []update.Step{}, api.OK},
	})
}

// As many steps as there may be, and one more.
func TestTheLongestChains(t *testing.T) {
	ds := slices.Repeat([]*big.Int{whole(3), per(whole(3)), whole(5)}, api.MaxChain)
	var l []question
	for _, count := range []int{api.MaxChain - 1, api.MaxChain, api.MaxChain + 1} {
		hops := hopsOf(whole(2), ds[:count]...)
		x := question{fmt.Sprint(count, " steps"), expsOf(whole(2), whole(3), 1).setup(), expsOf(hops[count-1].a, whole(3), 1).setup(), steps(hops), api.OK}
		if count > api.MaxChain {
			x.e = api.ErrLong
		}
		l = append(l, x)
		for _, i := range []int{0, count / 2, count - 1} {
			wrong := slices.Clone(hops)
			wrong[i].d = whole(9)
			y := question{fmt.Sprintf("%d steps, and the D of %d is another one", count, i), x.from, x.to, steps(wrong), api.ErrReject}
			if count > api.MaxChain {
				y.e = api.ErrLong
			}
			l = append(l, y)
		}
	}
	wantAnswers(t, l)
}

// A setup that is missing comes first, then steps that are too many.
func TestChainsErrorsInOrder(t *testing.T) {
	s := made(t, whole(2), whole(3), 1)
	bad := exps{wholes(1, 2), wholes(3, 4), whole(5)}.setup()
	var l []question
	for _, count := range []int{0, 1, 2, api.MaxChain, api.MaxChain + 1, api.MaxChain + 2, 64, 255, 256, 257, 288, 1 << 16} {
		many := make([]update.Step, count)
		for _, o := range []*srs.SRS{s, bad, {}} {
			l = append(l, question{fmt.Sprint("the first is nil, ", count), nil, o, many, api.ErrNil})
			l = append(l, question{fmt.Sprint("the second is nil, ", count), o, nil, many, api.ErrNil})
			if count > api.MaxChain {
				l = append(l, question{fmt.Sprint("the first is bad, ", count), o, s, many, api.ErrLong})
				l = append(l, question{fmt.Sprint("the second is bad, ", count), s, o, many, api.ErrLong})
				l = append(l, question{fmt.Sprint("both are bad, ", count), o, o, many, api.ErrLong})
			} else if count > 0 {
				l = append(l, question{fmt.Sprint("far steps, ", count), s, o, many, api.ErrReject})
			}
		}
		l = append(l, question{fmt.Sprint("both are nil, ", count), nil, nil, many, api.ErrNil})
	}
	wantAnswers(t, l)
}

// changes are multiples that differ from one.
func changes(k *big.Int) []*big.Int {
	l := []*big.Int{whole(0), new(big.Int).Neg(k), new(big.Int).Add(k, whole(1)), new(big.Int).Sub(k, whole(1)), new(big.Int).Add(k, k)}
	return slices.DeleteFunc(l, func(x *big.Int) bool { return mod(x).Cmp(mod(k)) == 0 })
}

// changed are setups of which one point is another one.
func changed(x exps) (l []exps) {
	for i, k := range x.powers {
		for _, c := range changes(k) {
			o := x.clone()
			o.powers[i] = c
			l = append(l, o)
		}
	}
	for i, k := range x.blinds {
		for _, c := range changes(k) {
			o := x.clone()
			o.blinds[i] = c
			l = append(l, o)
		}
	}
	for _, c := range changes(x.tau) {
		o := x.clone()
		o.tau = c
		l = append(l, o)
	}
	return l
}

// One of both is not good, in just one point; the steps fit, or are made to.
func TestSetupsThatAreNotGood(t *testing.T) {
	from, to, hops := expsOf(whole(2), whole(3), 2), expsOf(whole(10), whole(3), 2), hopsOf(whole(2), whole(5))
	var l []question
	for i, x := range changed(from) {
		l = append(l, ask(fmt.Sprint("the first, the change ", i), x, to, hops))
		l = append(l, ask(fmt.Sprint("both, the change ", i), x, x.updated(whole(5)), []hop{{product(x.powers[1], whole(5)), whole(5)}}))
		l = append(l, ask(fmt.Sprint("itself, the change ", i), x, x, nil))
	}
	for i, x := range changed(to) {
		l = append(l, ask(fmt.Sprint("the second, the change ", i), from, x, hops))
		if a := mod(x.powers[1]); a.Cmp(mod(to.powers[1])) != 0 {
			l = append(l, ask(fmt.Sprint("the second, and the step's A, the change ", i), from, x, []hop{{a, product(a, per(whole(2)))}}))
		}
	}
	for i, x := range badOnes() {
		l = append(l, ask(fmt.Sprint("itself, the bad one ", i), x, x, nil))
		l = append(l, ask(fmt.Sprint("updated, the bad one ", i), x, x.updated(whole(5)), []hop{{product(x.powers[1], whole(5)), whole(5)}}))
	}
	some(t, l, 0)
	wantAnswers(t, l)
}

func TestUnlikeDegrees(t *testing.T) {
	var l []question
	hops := hopsOf(whole(2), whole(5))
	for n := 1; n <= 3; n++ {
		for m := 1; m <= 3; m++ {
			x, y, z := expsOf(whole(2), whole(3), n), expsOf(whole(10), whole(3), m), expsOf(whole(2), whole(3), m)
			l = append(l, ask(fmt.Sprint(n, " and ", m), x, y, hops), ask(fmt.Sprint(n, " and ", m, ", without steps"), x, z, nil))
		}
	}
	some(t, l, 6)
	wantAnswers(t, l)
}

// Lists may have any lengths; of both setups, all else fits.
func TestListsOfAnyLengths(t *testing.T) {
	from, to := made(t, whole(2), whole(3), 3), made(t, whole(10), whole(3), 3)
	all := steps(hopsOf(whole(2), whole(5)))
	var l []question
	for powers := range 5 {
		for blinds := range 5 {
			e := api.ErrReject
			if powers == blinds && powers > 1 {
				e = api.OK
			}
			what := fmt.Sprintf("%d powers and %d blinds", powers, blinds)
			x, y := cut(from, powers, blinds), cut(to, powers, blinds)
			l = append(l, question{what, x, y, all, e}, question{what + ", itself", x, x, nil, e})
			if powers != 4 || blinds != 4 {
				l = append(l, question{what + ", the first", x, to, all, api.ErrReject}, question{what + ", the second", from, y, all, api.ErrReject})
			}
		}
	}
	l = append(l, question{"zero ones", &srs.SRS{}, &srs.SRS{}, nil, api.ErrReject}, question{"to a zero one", from, &srs.SRS{}, all, api.ErrReject})
	wantAnswers(t, l)
}

// Of more powers than there may be none is good, though each goes with the next one.
func TestListsThatAreTooLong(t *testing.T) {
	for _, n := range []int{api.MaxPower + 1, 1<<16 + 2} {
		same := slices.Repeat([]group.G1{gen1}, n+1)
		s := &srs.SRS{Powers: same, Blinds: same, Tau: gen2}
		wantAnswers(t, []question{
			{"itself", s, s, nil, api.ErrReject},
			{"by 1", s, s, []update.Step{{A: gen1, D: gen2}}, api.ErrReject},
		})
	}
}

func TestUnlikeBlinds(t *testing.T) {
	var l []question
	hops := hopsOf(whole(2), whole(5))
	for _, g := range []int64{3, -3, 1, 2, 6, 15, 30} {
		for _, o := range []int64{3, -3, 1, 2, 6, 15, 30} {
			x, y, z := expsOf(whole(2), whole(g), 1), expsOf(whole(10), whole(o), 1), expsOf(whole(2), whole(o), 1)
			l = append(l, ask(fmt.Sprint(g, " and ", o), x, y, hops), ask(fmt.Sprint(g, " and ", o, ", without steps"), x, z, nil))
		}
	}
	some(t, l, 14)
	wantAnswers(t, l)
}

// three is a chain of three steps.
func three() link {
	ds := wholes(5, -7, 11)
	return link{"three steps", expsOf(whole(2), whole(3), 1), expsOf(product(append(ds, whole(2))...), whole(3), 1), hopsOf(whole(2), ds...)}
}

// asks are questions about the same setups, and other steps.
func (x link) asks(what string, hops []hop) question { return ask(what, x.from, x.to, hops) }

func TestFarPoints(t *testing.T) {
	x := three()
	zero := whole(0)
	var l []question
	for i := range x.hops {
		d, a, both, behind := slices.Clone(x.hops), slices.Clone(x.hops), slices.Clone(x.hops), slices.Clone(x.hops)
		d[i].d, a[i].a, both[i] = zero, zero, hop{zero, zero}
		for j := i; j < len(behind); j++ {
			behind[j].a = zero // then each A goes with the one ahead of it
		}
		fit := slices.Clone(behind)
		fit[i].d = zero
		l = append(l, x.asks(fmt.Sprint("D ", i), d), x.asks(fmt.Sprint("A ", i), a), x.asks(fmt.Sprint("both ", i), both))
		for _, hops := range [][]hop{behind, fit} {
			l = append(l, x.asks(fmt.Sprint("all behind ", i), hops))
			far := exps{wholes(1, 0), wholes(3, 0), zero}
			l = append(l, ask(fmt.Sprint("all behind, to the far one ", i), x.from, far, hops), ask(fmt.Sprint("from the far one, too ", i), far, far, hops))
		}
	}
	far := exps{wholes(1, 0), wholes(3, 0), zero}
	for _, d := range wholes(0, 1, 5) {
		l = append(l, ask("from the far one to itself", far, far, []hop{{zero, d}}), ask("and on", far, x.from, []hop{{zero, d}, {whole(2), d}}))
	}
	some(t, l, 0)
	wantAnswers(t, l)
}

// One point is another one, at each place.
func TestOnePointIsAnotherOne(t *testing.T) {
	x := three()
	var l []question
	for i, h := range x.hops {
		for _, c := range append(changes(h.a), x.from.powers[1], whole(1), h.d) {
			hops := slices.Clone(x.hops)
			hops[i].a = c
			l = append(l, x.asks(fmt.Sprintf("the A of %d is %v in place of %v", i, c, h.a), hops))
		}
		for _, c := range append(changes(h.d), whole(1), per(h.d), h.a) {
			hops := slices.Clone(x.hops)
			hops[i].d = c
			l = append(l, x.asks(fmt.Sprintf("the D of %d is %v in place of %v", i, c, h.d), hops))
		}
	}
	some(t, l, 0)
	wantAnswers(t, l)
}

// Steps change places, are missing, come twice, or stand the other way round.
func TestStepsAtOtherPlaces(t *testing.T) {
	x := three()
	var l []question
	for i := range x.hops {
		l = append(l, x.asks(fmt.Sprint("without ", i), slices.Delete(slices.Clone(x.hops), i, i+1)))
		l = append(l, x.asks(fmt.Sprint("twice ", i), slices.Insert(slices.Clone(x.hops), i, x.hops[i])))
		for j := range i {
			both, as, ds := slices.Clone(x.hops), slices.Clone(x.hops), slices.Clone(x.hops)
			both[i], both[j] = both[j], both[i]
			as[i].a, as[j].a = as[j].a, as[i].a
			ds[i].d, ds[j].d = ds[j].d, ds[i].d
			l = append(l, x.asks(fmt.Sprint("steps ", j, i), both), x.asks(fmt.Sprint("As ", j, i), as), x.asks(fmt.Sprint("Ds ", j, i), ds))
		}
	}
	backward := slices.Clone(x.hops)
	slices.Reverse(backward)
	l = append(l, x.asks("backward", backward), ask("back", x.to, x.from, x.hops), ask("all backward", x.to, x.from, backward))
	l = append(l, x.asks("no steps", nil), ask("from itself", x.from, x.from, x.hops), ask("to itself", x.to, x.to, x.hops))
	some(t, l, 0)
	there := hopsOf(product(wholes(2, 5, -7, 11)...), per(whole(11)), per(whole(-7)), per(whole(5)))
	l = append(l, ask("back by inverses", x.to, x.from, there), x.asks("there, back and there", slices.Concat(x.hops, there, x.hops)))
	l = append(l, ask("a round", x.from, x.from, slices.Concat(x.hops, there)))
	some(t, l, 3)
	wantAnswers(t, l)
}

// Every choice of signs, of all points of two steps and of the last setup.
func TestSigns(t *testing.T) {
	var l []question
	from := expsOf(whole(2), whole(3), 1)
	for choice := range 32 {
		sign := func(place int, k int64) *big.Int {
			if choice>>place&1 == 1 {
				k = -k
			}
			return whole(k)
		}
		to := expsOf(sign(4, 70), whole(3), 1)
		hops := []hop{{sign(0, 10), sign(1, 5)}, {sign(2, 70), sign(3, 7)}}
		l = append(l, ask(fmt.Sprintf("the signs %b", choice), from, to, hops))
	}
	some(t, l, 4) // by 5 or -5, and by 7 or -7: the others follow
	wantAnswers(t, l)
}

// The steps go with each other, and lead to another setup's secret.
func TestTheEndIsAnotherOne(t *testing.T) {
	var l []question
	x := three()
	for _, tau := range append(changes(x.to.tau), wholes(2, 1, 3, 5*7*11)...) {
		if mod(tau).Sign() == 0 {
			continue
		}
		l = append(l, ask(fmt.Sprint("to ", tau), x.from, expsOf(tau, whole(3), 1), x.hops))
		l = append(l, ask(fmt.Sprint("to itself and ", tau), x.from, expsOf(tau, whole(3), 1), nil))
	}
	some(t, l, 1) // 2 again, without steps
	wantAnswers(t, l)
}

// Factors that cancel out: of the Ds alone, of the As too.
func TestFaultsThatCancelOut(t *testing.T) {
	x := three()
	var l []question
	for _, m := range []*big.Int{whole(2), whole(-1), per(whole(5)), whole(1000)} {
		for i := range 2 {
			ds, right, sums := slices.Clone(x.hops), slices.Clone(x.hops), slices.Clone(x.hops)
			ds[i].d, ds[i+1].d = product(ds[i].d, m), product(ds[i+1].d, per(m))
			right[i], right[i+1].d = hop{product(right[i].a, m), ds[i].d}, ds[i+1].d
			sums[i].a, sums[i+1].a = new(big.Int).Add(sums[i].a, m), new(big.Int).Sub(sums[i+1].a, m)
			l = append(l, x.asks(fmt.Sprint("Ds ", i, m), ds), x.asks(fmt.Sprint("Ds and As ", i, m), right), x.asks(fmt.Sprint("sums ", i, m), sums))
		}
	}
	some(t, l, 8) // an A that goes with its D is a step of another chain to the same end
	wantAnswers(t, l)
}

// All steps of small numbers, between all setups of small secrets.
func TestSmallOnes(t *testing.T) {
	var l []question
	for _, tau := range wholes(1, 2, -1) {
		for _, end := range wholes(1, 2, -1) {
			for _, a := range wholes(0, 1, 2, -1, -2) {
				for _, d := range wholes(0, 1, 2, -1, -2) {
					l = append(l, ask(fmt.Sprint(tau, end, a, d), expsOf(tau, whole(3), 1), expsOf(end, whole(3), 1), []hop{{a, d}}))
				}
			}
		}
	}
	some(t, l, 7) // but 2 does not lead to 1 or to -1 by such a number
	wantAnswers(t, l)
}

// Other values of one point are that point.
func TestOtherValues(t *testing.T) {
	var l []question
	x := three()
	for way := range ways {
		q := x.asks(fmt.Sprint("the way ", way), x.hops)
		wrong := slices.Clone(x.hops)
		wrong[way%3].d = whole(6)
		bad := x.asks(fmt.Sprint("no chain, the way ", way), wrong)
		for _, q := range []question{q, bad} {
			q.from, q.to = other(q.from, way), other(q.to, (way+2)%ways)
			for i := range q.steps {
				q.steps[i] = otherStep(q.steps[i], (way+i)%ways)
			}
			l = append(l, q)
		}
		none := x.asks(fmt.Sprint("itself, the way ", way), nil)
		none.from, none.to, none.e = other(none.from, way), other(none.from, (way+1)%ways), api.OK
		l = append(l, none)
	}
	some(t, l, 2*ways)
	for _, far := range []group.G2{{}, group.Curve2().Add(gen2, group.Curve2().Neg(gen2)), {X: fq2.Of(1, 0), Y: fq2.Of(1, 0)}} {
		q := x.asks("a far D", x.hops)
		q.steps[1].D, q.e = far, api.ErrReject
		l = append(l, q)
	}
	wantAnswers(t, l)
}

// outside1, outside2 are points of the curves that are not of the groups.
func outside1() group.G1 {
	p, _ := group.Curve1().Of(fq.Of(2), fq.Of(3))
	return p
}

func outside2() group.G2 {
	x, perU := fq2.Of(2, 1), fq2.Of(0, 1)
	perU, _ = perU.Inv()
	y, _ := x.Mul(x).Mul(x).Add(perU).Sqrt()
	p, _ := group.Curve2().Of(x, y)
	return p
}

// P18.4: no scalar has a point that is not of its group. Of an A with a point beside it
// that is not, the pairing tells the same as of that A.
func TestStepsOfNoGroup(t *testing.T) {
	a, d := outside1(), outside2()
	if group.In1(a) || group.In2(d) || !group.Curve1().Same(group.Curve1().Mul(a, []uint64{6}), group.G1{}) {
		t.Fatal("they are of the groups")
	}
	beside := group.Curve1().Add(gen1, a)
	if is, _ := pairing.IsOne([]group.G1{beside, group.Curve1().Neg(gen1)}, []group.G2{gen2, gen2}); !is {
		t.Error("the pairing tells both apart") // then there is nothing to ask
	}
	x := three()
	var l []question
	for i := range x.hops {
		for _, add := range []func(s *update.Step){
			func(s *update.Step) { s.A = group.Curve1().Add(s.A, a) },
			func(s *update.Step) { s.A = a },
			func(s *update.Step) { s.D = group.Curve2().Add(s.D, d) },
			func(s *update.Step) { s.D = d },
		} {
			q := x.asks(fmt.Sprint("the step ", i), x.hops)
			add(&q.steps[i])
			q.e = api.ErrReject
			l = append(l, q)
		}
	}
	wantAnswers(t, l)
}

// A setup with such a point is that of no scalars.
func TestSetupsOfNoGroup(t *testing.T) {
	a, d := outside1(), outside2()
	c := group.Curve1()
	x := three()
	var l []question
	for i, spoil := range []func(s *srs.SRS){
		func(s *srs.SRS) { s.Powers[2] = c.Add(s.Powers[2], a) },
		func(s *srs.SRS) { s.Blinds[1] = c.Add(s.Blinds[1], a) },
		func(s *srs.SRS) { s.Blinds[2] = c.Add(s.Blinds[2], a) },
		func(s *srs.SRS) { s.Tau = group.Curve2().Add(s.Tau, d) },
		func(s *srs.SRS) { s.Blinds[0] = c.Add(s.Blinds[0], a) },
		func(s *srs.SRS) { s.Powers[1] = c.Add(s.Powers[1], a) },
	} {
		from, to := expsOf(whole(2), whole(3), 2).setup(), expsOf(x.to.tau, whole(3), 2).setup()
		badFrom, badTo := cut(from, 3, 3), cut(to, 3, 3)
		spoil(badFrom)
		spoil(badTo)
		l = append(l,
			question{fmt.Sprint("the first ", i), badFrom, to, steps(x.hops), api.ErrReject},
			question{fmt.Sprint("the second ", i), from, badTo, steps(x.hops), api.ErrReject},
			question{fmt.Sprint("both ", i), badFrom, badTo, steps(x.hops), api.ErrReject},
			question{fmt.Sprint("itself ", i), badFrom, badFrom, nil, api.ErrReject},
			question{fmt.Sprint("all is right ", i), from, to, steps(x.hops), api.OK},
		)
	}
	wantAnswers(t, l)
}
