package batch_test

import (
	"encoding/hex"
	"fmt"
	"math/big"
	"slices"
	"testing"

	"marlinspike/api"
	"marlinspike/batch"
	"marlinspike/fq2"
	"marlinspike/fr"
	"marlinspike/group"
	"marlinspike/open"
	"marlinspike/pairing"
	"marlinspike/points"
	"marlinspike/srs"
)

// P21.1, and the forms of all calls, which are a part of the promises.
var (
	_ func(s *srs.SRS, l []batch.Claim, x fr.El) (bool, api.Errno)                      = batch.Check
	_ func(z fr.El, cs []group.G1, os []open.Opening, x fr.El) (batch.Claim, api.Errno) = batch.Join
)

var _ = struct {
	C group.G1
	Z fr.El
	O open.Opening
}(batch.Claim{})

// part is a claim's part of a name.
func (l *claim) part(name string) **big.Int {
	switch name {
	case "c":
		return &l.c
	case "z":
		return &l.z
	case "v":
		return &l.v
	case "b":
		return &l.b
	}
	return &l.w
}

// partNames are all of them.
func partNames() []string { return []string{"c", "z", "v", "b", "w"} }

// off are the same claims, but for a part of the i-th one, which is k more.
func off(l []claim, i int, name string, k *big.Int) []claim {
	l = slices.Clone(l)
	part := l[i].part(name)
	*part = plus(*part, k)
	return l
}

// claims are those that were worked out.
func (a checkApart) claims() []claim {
	l := openingsApart(setupsApart()[a.name], a.n)
	for _, o := range a.off {
		l = off(l, o.at, o.part, number(o.digits))
	}
	return l
}

// What the tests hold the program against is held against what was worked out apart.
func TestModel(t *testing.T) {
	for i, a := range checksApart() {
		x, l, by := setupsApart()[a.name], a.claims(), number(a.x)
		left, w := x.folds(l, by)
		if hex.EncodeToString(texts.tell(left)) != a.left || hex.EncodeToString(texts.tell(w)) != a.w || x.hold(l, by) != a.is {
			t.Errorf("%d: they are %x, %x, %v", i, texts.tell(left), texts.tell(w), x.hold(l, by))
		}
	}
	for i, a := range joinsApart() {
		l := join(number(a.z), a.openings(), number(a.x))
		if hex.EncodeToString(texts.tell(l.c)) != a.c || hex.EncodeToString(texts.tell(l.w)) != a.w || l.v.Cmp(number(a.v)) != 0 || l.b.Cmp(number(a.b)) != 0 {
			t.Errorf("the join %d: they are %x, %x, %x, %x", i, texts.tell(l.c), l.v, l.b, texts.tell(l.w))
		}
	}
}

// read is the point of a multiple's bytes, as the model tells them.
func read(t *testing.T, k *big.Int) group.G1 {
	t.Helper()
	p, e := points.Get1([48]byte(texts.tell(k)))
	if e != api.OK {
		t.Fatal(e)
	}
	return p
}

// Points are read from bytes that are not the program's.
func TestToldApart(t *testing.T) {
	var l []question
	for i, a := range checksApart() {
		q := question{what: fmt.Sprintf("%d: %v", i, a), s: setupsApart()[a.name].setup(), x: el(number(a.x)), is: a.is}
		for _, c := range a.claims() {
			o := open.Opening{V: el(c.v), B: el(c.b), W: read(t, c.w)}
			q.l = append(q.l, batch.Claim{C: read(t, c.c), Z: el(c.z), O: o})
		}
		l = append(l, q)
	}
	wantAnswers(t, l)
}

func TestExamples(t *testing.T) {
	s := made(t, whole(2), whole(3), 2)
	good := claimed(t, "the one", s, wholes(1, 0, 1), wholes(5), whole(3))
	bad := good
	bad.O.V = fr.Of(11)
	wantAnswers(t, []question{
		{"none", s, nil, fr.Of(7), true},
		{"one that holds, at 0", s, []batch.Claim{good}, fr.El{}, true},
		{"one that does not, at 1", s, []batch.Claim{bad}, fr.Of(1), false},
		{"one that does not, behind one that does, at 0", s, []batch.Claim{good, bad}, fr.El{}, true},
		{"one that does not, behind one that does, at 1", s, []batch.Claim{good, bad}, fr.Of(1), false},
		{"one that does not, ahead of one that does, at 0", s, []batch.Claim{bad, good}, fr.El{}, false},
	})
}

// pairsOf are pairs of scalars, each of them in several.
func pairsOf() (l [][2]*big.Int) {
	all := scalars()
	for i, t := range all {
		l = append(l, [2]*big.Int{t, all[(i*5+3)%len(all)]})
	}
	return append(l, [2]*big.Int{whole(2), whole(2)}, [2]*big.Int{minus(1), minus(1)})
}

// places are some of all kinds: 0, 1, -1, a setup's secret and its negative, others.
func places(tau *big.Int) []*big.Int {
	s := numbers{state: 8}
	return append(wholes(0, 1, 3, 1<<40), minus(1), tau, new(big.Int).Neg(tau), s.big(), s.big())
}

// bys are scalars to hold claims together by.
func bys() []*big.Int {
	s := numbers{state: 7}
	return append(scalars(), whole(0), whole(-3), whole(10), s.big(), s.big())
}

// Openings that open tells of what commit tells, by setups that srs makes, of several
// polynomials at several places; and the same with one fault.
func TestCheck(t *testing.T) {
	pairs, xs := pairsOf(), bys()
	questions := make([][]question, len(pairs))
	together(len(pairs), func(i int) {
		tau, n := pairs[i][0], 1+i%4
		s, zs, ps := made(t, tau, pairs[i][1], n), places(tau), some(n+1)
		var l []batch.Claim
		for j := range 1 + i%5 {
			p, b, z := ps[(i*3+j*4)%len(ps)], ps[(i*5+j*7+4)%len(ps)], zs[(i+j*2)%len(zs)]
			l = append(l, claimed(t, fmt.Sprintf("of %v and %v at %v by %v", p, b, z, pairs[i]), s, p, b, z))
		}
		for k := range 3 {
			what := fmt.Sprintf("%d by %v at %v", len(l), pairs[i], xs[(i*3+k)%len(xs)])
			x := el(xs[(i*3+k)%len(xs)])
			questions[i] = append(questions[i], question{what, s, l, x, true})
			at := (i + k) % len(l)
			faulty := slices.Clone(l)
			faulty[at].O.B = faulty[at].O.B.Sub(fr.Of(1))
			questions[i] = append(questions[i], question{fmt.Sprint(what, ", with a fault at ", at), s, faulty, x, at > 0 && x.IsZero()})
		}
		questions[i] = append(questions[i], question{"by other values", other(s, i), otherClaims(l, i), el(xs[i%len(xs)]), true})
	})
	wantAnswers(t, slices.Concat(questions...))
}

// drawn are claims of any multiples, which do not hold.
func drawn(s *numbers, n int) (l []claim) {
	for range n {
		l = append(l, claim{s.big(), s.big(), s.big(), s.big(), s.big()})
	}
	return l
}

// heldBy are claims of any multiples, each of which holds by itself.
func (x exps) heldBy(s *numbers, n int) (l []claim) {
	for _, a := range drawn(s, n) {
		l = append(l, x.held(a))
	}
	return l
}

// Claims of any multiples, of which one is chosen so that they hold together at just one
// x, against the equation of scalars: there, and elsewhere.
func TestEquation(t *testing.T) {
	source := numbers{state: 13}
	var l []question
	holds := 0
	for i, pair := range [][2]*big.Int{{whole(2), whole(3)}, {minus(1), minus(1)}, {source.big(), source.big()}, {whole(1), source.big()}} {
		tau, g := pair[0], pair[1]
		x := expsOf(tau, g, 1+i)
		for n := 1; n < 6; n++ {
			by, at := source.big(), source.below(n)
			all := drawn(&source, n)
			left, w := x.folds(all, by)
			lacks := plus(times(w, tau), new(big.Int).Neg(left))
			lacks = times(lacks, new(big.Int).ModInverse(raised(by, at), r))
			all = off(all, at, "c", lacks)
			holds++
			if n == 1 { // it holds by itself then
				holds += 4
			}
			for j, other := range []*big.Int{by, plus(by, whole(1)), new(big.Int).Neg(by), whole(0), whole(1)} {
				q := ask(fmt.Sprintf("%d by %v, undone at %d, %d", n, pair, at, j), x, all, other)
				if q.is != equal(tau, g, all, other) {
					t.Errorf("%s: the model", q.what)
				}
				l = append(l, q)
			}
		}
	}
	hold(t, l, holds)
	wantAnswers(t, l)
}

// changes are numbers that are added to one part, so that it is another one.
func changes(k *big.Int) []*big.Int {
	l := []*big.Int{new(big.Int).Neg(k), whole(1), new(big.Int).Lsh(whole(1), 252)}
	return slices.DeleteFunc(l, func(x *big.Int) bool { return mod(x).Sign() == 0 })
}

// Of claims that hold one has another V, B, W, Z or C: at every place among the others.
func TestOneFault(t *testing.T) {
	source := numbers{state: 14}
	var l []question
	for i, pair := range [][2]*big.Int{{whole(2), whole(3)}, {source.big(), source.big()}} {
		x := expsOf(pair[0], pair[1], 2)
		for n := 1; n < 5; n++ {
			var all []claim
			for range n {
				all = append(all, x.opening(source.bigs(3), source.bigs(2), source.big()))
			}
			xs := []*big.Int{whole(1), source.big()}
			l = append(l, ask(fmt.Sprintf("%d by %d", n, i), x, all, xs[1]))
			for at := range n {
				for j, name := range partNames() {
					k := changes(*all[at].part(name))[(i+n+at)%3]
					faulty := off(all, at, name, k)
					what := fmt.Sprintf("%d by %d, of the claim %d another %s", n, i, at, name)
					q := ask(what, x, faulty, xs[(j+at)%2])
					if q.is || equal(pair[0], pair[1], faulty, xs[(j+at)%2]) {
						t.Errorf("%s: the model", what)
					}
					l = append(l, q)
					if (at+j)%3 == 0 {
						l = append(l, question{what + ", at 0", q.s, q.l, fr.El{}, at > 0})
					}
				}
			}
		}
	}
	wantAnswers(t, l)
}

// product is the polynomial k (Z - a) (Z - b) ..
func product(k *big.Int, roots ...*big.Int) []*big.Int {
	p := []*big.Int{mod(k)}
	for _, a := range roots {
		up := append(zeros(1), p...)
		for i, y := range p {
			up[i] = plus(up[i], new(big.Int).Neg(times(a, y)))
		}
		p = up
	}
	return p
}

// Claims none of which need hold: what each lacks are a polynomial's scalars, so that they
// hold together at just its roots. Any part of a claim may be what is off.
func TestRoots(t *testing.T) {
	source := numbers{state: 15}
	i := el(source.big())
	root, _ := fr.Root(4)
	var l []question
	holds := 0
	for j, roots := range [][]*big.Int{
		nil, {source.big()}, wholes(1), wholes(-1), wholes(0), wholes(0, 1), wholes(1, -1), {source.big(), source.big()}, {back(i), back(i)},
		{whole(1), minus(1), back(root), back(root.Neg())}, {whole(0), whole(0), whole(5), source.big()},
	} {
		pair := [2]*big.Int{source.big(), source.big()}
		x := expsOf(pair[0], pair[1], 1)
		lacks := product(source.big(), roots...)
		all := x.heldBy(&source, len(lacks)+j%2) // one that holds may be behind
		for at, k := range lacks {
			all = x.lack(all, at, partNames()[(at+j)%5], k)
		}
		asked := append(slices.Clone(roots), whole(0), whole(1), minus(1), back(root), source.big(), plus(pair[0], whole(1)))
		for _, by := range asked {
			q := ask(fmt.Sprintf("the roots %d at %v", j, by), x, all, by)
			is := slices.ContainsFunc(roots, func(a *big.Int) bool { return mod(a).Cmp(mod(by)) == 0 })
			if q.is != is || equal(pair[0], pair[1], all, by) != is {
				t.Errorf("%s: the model", q.what)
			}
			if is {
				holds++
			}
			l = append(l, q)
		}
	}
	hold(t, l, holds)
	wantAnswers(t, l)
}

// lack are the same claims, but for the i-th one, of which a part is so far off that
// it lacks k.
func (x exps) lack(l []claim, i int, name string, k *big.Int) []claim {
	per := map[string]*big.Int{
		"c": whole(1), "v": new(big.Int).Neg(x.powers[0]), "b": new(big.Int).Neg(x.blinds[0]),
		"w": plus(l[i].z, new(big.Int).Neg(x.tau)), "z": l[i].w,
	}
	return off(l, i, name, times(k, new(big.Int).ModInverse(mod(per[name]), r)))
}

// Faults that undo each other at one x, and not at another, nor in another order.
func TestFaultsThatUndoEachOther(t *testing.T) {
	source := numbers{state: 16}
	x := expsOf(source.big(), source.big(), 2)
	var l []question
	for i, first := range partNames() {
		for j, second := range partNames() {
			by, k := source.big(), source.big()
			all := x.heldBy(&source, 4)
			at, behind := (i+j)%3, (i+j)%3+1+(i*j)%(3-(i+j)%3)
			all = x.lack(all, at, first, times(k, raised(by, behind)))
			all = x.lack(all, behind, second, new(big.Int).Neg(times(k, raised(by, at))))
			what := fmt.Sprintf("%s at %d and %s at %d", first, at, second, behind)
			turned := slices.Clone(all)
			slices.Reverse(turned)
			l = append(l, ask(what, x, all, by), ask(what+", at another x", x, all, plus(by, whole(1))), ask(what+", turned", x, turned, by))
			l = append(l, ask(what+", turned, at the inverse", x, turned, new(big.Int).ModInverse(by, r)))
			all[at], all[behind] = all[behind], all[at]
			l = append(l, ask(what+", in turned places", x, all, by))
		}
	}
	hold(t, l, 25*2)
	wantAnswers(t, l)
}

// By x that is 0 the first claim alone is looked at; by 1 all count as they are; by -1
// each other one is taken away.
func TestSmallXs(t *testing.T) {
	source := numbers{state: 17}
	x := expsOf(source.big(), source.big(), 1)
	var l []question
	for n := 1; n < 5; n++ {
		all := x.heldBy(&source, n)
		faults := x.lack(all, 0, "v", whole(5))
		for i := 1; i < n; i++ {
			all = x.lack(all, i, partNames()[i], source.big())
			faults = x.lack(faults, i, partNames()[i], whole([]int64{-5, 5, 0, -5}[i-1]))
		}
		what := fmt.Sprint(n, " claims")
		add := func(more string, all []claim, by int64, is bool) {
			q := ask(what+more, x, all, whole(by))
			if q.is != is {
				t.Errorf("%s: the model", q.what)
			}
			l = append(l, q)
		}
		add(", all but the first faulty, by 0", all, 0, true)
		add(", all but the first faulty, by 1", all, 1, n == 1)
		add(", the first faulty, by 0", faults, 0, false)
		add(", 5, -5, 5, 0, by 1", faults, 1, n == 2)
		add(", 5, -5, 5, 0, by -1", faults, -1, false)
		swapped := x.lack(x.heldBy(&source, 2), 0, "c", whole(9))
		swapped = x.lack(swapped, 1, "b", whole(9))
		add(", two alike faults, by -1", append(swapped, x.heldBy(&source, n)...), -1, true)
		add(", two alike faults, by 1", append(swapped, x.heldBy(&source, n)...), 1, false)
	}
	wantAnswers(t, l)
}

// One claim holds together, at each x, just if open tells that it holds.
func TestOneClaim(t *testing.T) {
	source := numbers{state: 18}
	setups := loose()
	p := outside()
	ps := []group.G1{{}, gen, p, group.Curve1().Add(gen, p), told.tell(minus(1))}
	taken := make([]int, len(setups))
	xs := bys()
	together(len(setups), func(i int) {
		x, s := setups[i], setups[i].setup()
		source := numbers{state: uint64(i)}
		l := claims(append(x.heldBy(&source, 2), drawn(&source, 1)...))
		for j := range 3 {
			o := open.Opening{V: fr.Of(int64(j)), B: fr.Of(int64(-i)), W: ps[(i+j)%5]}
			l = append(l, batch.Claim{C: ps[(i*3+j*2)%5], Z: fr.Of(int64(j)), O: o})
		}
		for j, a := range l {
			by := el(xs[(i+j*3)%len(xs)])
			wanted, e := open.Check(s, a.C, a.Z, a.O)
			if is, wrong := batch.Check(s, []batch.Claim{a}, by); is != wanted || wrong != e || e != api.OK {
				t.Errorf("%d by the setup %d: %v, %v, not %v, %v", j, i, is, wrong, wanted, e)
			}
			if wanted {
				taken[i]++
			}
		}
	})
	if slices.Min(taken) < 2 {
		t.Errorf("too few hold: %v", taken)
	}
	x := expsOf(source.big(), source.big(), 2)
	a := x.opening(source.bigs(3), source.bigs(3), source.big())
	var l []question
	for i, by := range xs {
		l = append(l, ask(fmt.Sprint("one, ", i), x, []claim{a}, by), ask(fmt.Sprint("one with a fault, ", i), x, off([]claim{a}, 0, partNames()[i%5], whole(1)), by))
	}
	hold(t, l, len(xs))
	wantAnswers(t, l)
}

// No claims hold together, nil and empty, at each x and by each setup that is none of
// those that are refused.
func TestNoClaims(t *testing.T) {
	var l []question
	xs := bys()
	setups := []*srs.SRS{made(t, whole(2), whole(3), 1), {Powers: make([]group.G1, 1), Blinds: make([]group.G1, 1)}, {Powers: []group.G1{outside()}, Blinds: []group.G1{gen}, Tau: awayFromG2(t)}}
	for _, x := range loose() {
		setups = append(setups, x.setup())
	}
	for i, s := range setups {
		for j := range 2 {
			x := xs[(i*2+j)%len(xs)]
			l = append(l, question{fmt.Sprint("nil, ", i), s, nil, el(x), true}, question{fmt.Sprint("empty, ", i), s, []batch.Claim{}, el(x), true})
		}
		l = append(l, question{fmt.Sprint("cut, at 0, ", i), s, make([]batch.Claim, 3)[:0], fr.El{}, true})
	}
	wantAnswers(t, l)
}

// The same claim twice: if it does not hold, two of it do at -1 alone, and four of it at
// the roots of 1 + x + x^2 + x^3 alone.
func TestTheSameClaimTwice(t *testing.T) {
	source := numbers{state: 19}
	x := expsOf(source.big(), source.big(), 2)
	root, _ := fr.Root(4)
	var l []question
	for i, name := range partNames() {
		good := x.opening(source.bigs(3), source.bigs(2), source.big())
		bad := off([]claim{good}, 0, name, source.big())[0]
		for j, by := range append(wholes(0, 1, -1, 2), back(root), back(root.Neg()), source.big()) {
			what := fmt.Sprintf("%d at %d", i, j)
			l = append(l, ask(what+": a good one twice", x, []claim{good, good}, by))
			l = append(l, ask(what+": a bad one twice", x, []claim{bad, bad}, by))
			l = append(l, ask(what+": a bad one four times", x, []claim{bad, bad, bad, bad}, by))
		}
	}
	hold(t, l, 5*(7+1+3))
	wantAnswers(t, l)
}

// loose are setups that are of no two scalars: any points, the far one, alike ones and
// each other's negatives among them.
func loose() []exps {
	s := numbers{state: 2}
	return []exps{
		{wholes(0), wholes(0), whole(0)}, {wholes(5), wholes(7), whole(1)}, {s.bigs(1), s.bigs(1), s.big()},
		{wholes(0, 0, 0), wholes(0, 0, 0), whole(2)}, {wholes(1, 1, 1), wholes(1, 1, 1), minus(1)}, {wholes(1, -1, 1, -1), wholes(-1, 1, -1, 1), whole(0)},
		{wholes(0, 1, 0, 2), wholes(3, 0, 4, 0), whole(3)}, {wholes(2, 4, 8, 16), wholes(1, 1, 2, 3), whole(2)}, {wholes(3, 6, 12), wholes(1, 2, 4), whole(2)},
		{s.bigs(2), s.bigs(2), s.big()}, {wholes(1, 0, -1), s.bigs(3), s.big()}, {s.bigs(6), s.bigs(6), s.big()},
	}
}

// By setups that are of no two scalars the first power, the first blind and Tau say what
// holds.
func TestCheckByAnyPoints(t *testing.T) {
	source := numbers{state: 20}
	var l []question
	holds := 0
	for i, x := range loose() {
		for n := 1; n < 4; n++ {
			what, by, at := fmt.Sprintf("%d by the setup %d", n, i), source.big(), source.below(n)
			all := x.heldBy(&source, n)
			l = append(l, ask(what, x, all, by), ask(what+", with another C", x, off(all, at, "c", whole(1)), by))
			l = append(l, ask(what+", with another V", x, off(all, at, "v", whole(1)), by), ask(what+", with another B", x, off(all, at, "b", whole(1)), by))
			holds++
			if x.powers[0].Sign() == 0 { // then V plays no part
				holds++
			}
			if x.blinds[0].Sign() == 0 { // nor does B here
				holds++
			}
		}
	}
	hold(t, l, holds)
	wantAnswers(t, l)
}

// Nothing but the first power, the first blind and Tau plays a part.
func TestTheFirstPointsAlone(t *testing.T) {
	source := numbers{state: 21}
	first := exps{wholes(2), wholes(3), whole(4)}
	all, by := first.heldBy(&source, 3), source.big()
	var l []question
	for i, x := range []exps{first, {wholes(2, 0), wholes(3, 0), whole(4)}, {wholes(2, 5, 9), wholes(3, 1, 1), whole(4)}, {wholes(2, 2, 2), wholes(3, 3, 3), whole(4)}} {
		l = append(l, ask(fmt.Sprint("by the setup ", i), x, all, by))
		for j, y := range []exps{{append(wholes(3), x.powers[1:]...), x.blinds, x.tau}, {x.powers, append(wholes(2), x.blinds[1:]...), x.tau}, {x.powers, x.blinds, whole(5)}, {x.powers, x.blinds, whole(0)}} {
			l = append(l, ask(fmt.Sprintf("by the setup %d, changed, %d", i, j), y, all, by))
		}
	}
	hold(t, l, 4)
	wantAnswers(t, l)
}

// The far one as C, as W and as Tau, and scalars that are 0.
func TestFarOnes(t *testing.T) {
	x := expsOf(whole(2), whole(3), 2)
	still := exps{x.powers, x.blinds, whole(0)}
	none := claim{whole(0), whole(0), whole(0), whole(0), whole(0)}
	of := func(c, z, v, b, w int64) claim { return claim{whole(c), whole(z), whole(v), whole(b), whole(w)} }
	var l []question
	for i, by := range wholes(0, 1, 10, -1) {
		add := func(what string, x exps, all ...claim) {
			l = append(l, ask(fmt.Sprint(what, ", ", i), x, all, by))
		}
		add("nothing but 0", x, none, none, none)                             // holds at all 4
		add("nothing but 0, Tau too", still, none, none)                      // 4
		add("one, behind nothing", x, none, of(1, 0, 0, 0, 0))                // at 0 alone
		add("one, ahead of nothing", x, of(1, 0, 0, 0, 0), none)              // 0
		add("V of both", x, of(1, 7, 1, 0, 0), of(5, 8, 5, 0, 0))             // 4
		add("B of both", x, of(3, 7, 0, 1, 0), none, of(6, 0, 0, 2, 0))       // 4
		add("W at t alone", x, of(0, 2, 0, 0, 1), of(0, 2, 0, 0, 9))          // 4
		add("W at t, and elsewhere", x, of(0, 2, 0, 0, 1), of(0, 3, 0, 0, 9)) // at 0 alone
		add("W, by Tau 0", still, of(0, 0, 0, 0, 1), of(0, 0, 0, 0, 4))       // 4
		add("W, by Tau 0, off", still, none, of(0, 1, 0, 0, 4))               // at 0 alone
		add("Ws that undo", x, of(0, 0, 0, 0, 10), of(0, 0, 0, 0, -1))        // at 10 alone
		add("Cs that undo", x, of(1, 0, 0, 0, 0), of(-1, 0, 0, 0, 0))         // at 1 alone
		add("V and B that undo", x, of(0, 0, 3, 0, 0), of(0, 0, 0, 1, 0))     // at -1 alone
	}
	hold(t, l, 6*4+6)
	wantAnswers(t, l)
	for n := range 3 {
		if is, e := batch.Check(x.setup(), make([]batch.Claim, n), fr.Of(7)); !is || e != api.OK {
			t.Errorf("zero values, %d: %v, %v", n, is, e)
		}
	}
}

// One point by several values is the same point.
func TestSeveralValues(t *testing.T) {
	source := numbers{state: 22}
	x := expsOf(whole(2), whole(3), 1)
	s := x.setup()
	var l []question
	for _, k := range []*big.Int{whole(0), whole(1), minus(2)} {
		w := claim{z: whole(7), v: whole(4), b: whole(5), w: k}
		all := append(x.heldBy(&source, 1), x.held(w), x.held(claim{z: whole(2), v: k, b: whole(0), w: k}))
		for way := range ways {
			what, by := fmt.Sprintf("%v by the values %d", k, way), el(source.big())
			faulty := otherClaims(claims(off(all, way%3, partNames()[way], whole(1))), way)
			l = append(l, question{what, other(s, way), otherClaims(claims(all), way), by, true})
			l = append(l, question{what + ", with a fault", other(s, way), faulty, by, x.hold(off(all, way%3, partNames()[way], whole(1)), back(by))})
		}
	}
	hold(t, l, 3*ways+1) // at t another W is no fault
	wantAnswers(t, l)
}

// piecewise are both folds, one point behind the other.
func piecewise(s *srs.SRS, l []batch.Claim, x *big.Int) (left, w group.G1) {
	c := group.Curve1()
	for i, a := range l {
		p := c.Add(a.C, c.Neg(group.Mul1(s.Powers[0], a.O.V)))
		p = c.Add(p, c.Neg(group.Mul1(s.Blinds[0], a.O.B)))
		p = c.Add(p, group.Mul1(a.O.W, a.Z))
		power := el(raised(x, i))
		left, w = c.Add(left, group.Mul1(p, power)), c.Add(w, group.Mul1(a.O.W, power))
	}
	return left, w
}

// Of points that are not of the groups, too, Check tells what the pairings are.
func TestCheckIsOfPairings(t *testing.T) {
	c, p := group.Curve1(), outside()
	away := awayFromG2(t)
	ps := []group.G1{gen, p, c.Add(p, gen), c.Mul(p, []uint64{3}), {}}
	type set struct {
		s *srs.SRS
		l []batch.Claim
		x *big.Int
	}
	var l []set
	for i, tau := range []group.G2{gen2, away, group.Curve2().Add(gen2, away)} {
		for j := range 10 {
			s := &srs.SRS{Powers: []group.G1{ps[j%3]}, Blinds: []group.G1{ps[(i+j)%3]}, Tau: tau}
			var claims []batch.Claim
			for k := range 1 + j%3 {
				o := open.Opening{V: fr.Of(int64(j % 2)), B: fr.Of(int64(k)), W: ps[(i+j+k)%5]}
				claims = append(claims, batch.Claim{C: ps[(j+2*k)%5], Z: fr.Of(int64(j - 4)), O: o})
			}
			// What is of the group comes to 0 at 1, if W is not looked at.
			left, w := piecewise(s, claims, whole(1))
			claims = append(claims, batch.Claim{C: c.Add(c.Neg(left), ps[1+i%2*2])})
			if j%2 == 0 {
				claims[len(claims)-1].O.W = c.Neg(w)
			}
			l = append(l, set{s, claims, whole(1)}, set{s, claims, whole(5)})
		}
	}
	held := make([]bool, len(l))
	together(len(l), func(i int) {
		a := l[i]
		left, w := piecewise(a.s, a.l, a.x)
		held[i] = pairing.Pair(left, gen2) == pairing.Pair(w, a.s.Tau)
		if is, e := batch.Check(a.s, a.l, el(a.x)); is != held[i] || e != api.OK {
			t.Errorf("%d: %v, %v, not %v", i, is, e, held[i])
		}
	})
	if !slices.Contains(held, true) || !slices.Contains(held, false) {
		t.Errorf("all of them are %v", held[0])
	}
}

// awayFromG2 is a point of G2's curve, y^2 = x^3 + 1 / u, that is not of the group.
func awayFromG2(t *testing.T) group.G2 {
	t.Helper()
	perU, _ := fq2.Of(0, 1).Inv()
	for n := range int64(100) {
		x := fq2.Of(n, 0)
		y, e := x.Mul(x).Mul(x).Add(perU).Sqrt()
		if e != api.OK {
			continue
		}
		if p, e := group.Curve2().Of(x, y); e == api.OK && !group.In2(p) {
			return p
		}
	}
	t.Fatal("no such point")
	return group.G2{}
}

// Many claims, and one fault among them, or two that undo each other.
func TestManyClaims(t *testing.T) {
	source := numbers{state: 23}
	x := expsOf(source.big(), source.big(), 1)
	few := x.heldBy(&source, 9)
	n := 200
	var all []claim
	for i := range n {
		all = append(all, few[i*i%9])
	}
	by, k := source.big(), source.big()
	var l []question
	add := func(what string, all []claim, by *big.Int, is bool) {
		q := ask(what, x, all, by)
		if q.is != is {
			t.Errorf("%s: the model", what)
		}
		l = append(l, q)
	}
	add("as they are", all, by, true)
	add("by -1", all, whole(-1), true)
	for i, at := range []int{0, 1, 64, n - 1} {
		faulty := x.lack(all, at, partNames()[i], k)
		add(fmt.Sprint("a fault at ", at), faulty, by, false)
		less := times(times(k, raised(by, at)), new(big.Int).ModInverse(raised(by, 99), r))
		undone := x.lack(faulty, 99, "c", new(big.Int).Neg(less))
		add(fmt.Sprint("undone at ", at), undone, by, true)
		add(fmt.Sprint("undone elsewhere, at ", at), undone, plus(by, whole(1)), false)
	}
	wantAnswers(t, l)
}

// badSetups are those that are refused, whatever is asked of them.
func badSetups(t *testing.T) (l []*srs.SRS) {
	long := made(t, whole(2), whole(3), 4)
	for powers := range 6 {
		for blinds := range 6 {
			if powers != blinds || powers == 0 {
				l = append(l, cut(long, powers, blinds))
			}
		}
	}
	l = append(l, &srs.SRS{}, &srs.SRS{Powers: []group.G1{}}, &srs.SRS{Blinds: []group.G1{}}, &srs.SRS{Powers: []group.G1{}, Blinds: []group.G1{}, Tau: gen2})
	return append(l, &srs.SRS{Powers: []group.G1{gen}}, &srs.SRS{Blinds: []group.G1{gen}}, &srs.SRS{Powers: long.Powers, Blinds: slices.Concat(long.Blinds, long.Blinds), Tau: long.Tau})
}

// A setup that is nil comes first, then one whose lists may not be, whatever else is
// asked: no claims, some that hold, some that do not.
func TestErrorsInOrder(t *testing.T) {
	source := numbers{state: 24}
	x := expsOf(whole(2), whole(3), 4)
	good, bad := claims(x.heldBy(&source, 3)), claims(drawn(&source, 2))
	strange := batch.Claim{C: outside(), O: open.Opening{W: outside()}}
	for i, s := range append(badSetups(t), nil) {
		e := api.ErrArg
		if s == nil {
			e = api.ErrNil
		}
		for j, l := range [][]batch.Claim{nil, {}, good, good[:1], bad, slices.Concat(good, bad), make([]batch.Claim, 1), make([]batch.Claim, 1000), {strange}} {
			for _, by := range []fr.El{{}, fr.Of(1), fr.Of(-1), el(source.big())} {
				refuse(t, fmt.Sprintf("the claims %d by the bad setup %d", j, i), s, l, by, e)
			}
		}
	}
}

// Of lists of one length each that lie in longer ones: what is behind their ends is none
// of the setup.
func TestCutSetups(t *testing.T) {
	source := numbers{state: 25}
	x := expsOf(whole(2), whole(3), 4)
	long, good := x.setup(), claims(x.heldBy(&source, 3))
	var l []question
	for n := 1; n < 6; n++ {
		l = append(l, question{fmt.Sprint("of ", n), cut(long, n, n), good, el(source.big()), true})
	}
	wantAnswers(t, l)
}

// The greatest setup that srs makes, and a longer one: nothing but its first points count.
func TestCheckByLongSetups(t *testing.T) {
	source := numbers{state: 26}
	first := exps{wholes(1), wholes(3), whole(2)}
	all, by := first.heldBy(&source, 3), source.big()
	for _, n := range []int{api.MaxPower, api.MaxDomain + 9} {
		s := &srs.SRS{Powers: slices.Repeat([]group.G1{gen}, n+1), Blinds: slices.Repeat([]group.G1{told.tell(whole(3))}, n+1), Tau: told2.tell(whole(2))}
		faulty := claims(off(all, 1, "b", whole(1)))
		wantAnswers(t, []question{{"them", s, claims(all), el(by), true}, {"with another B", s, faulty, el(by), false}})
	}
}
