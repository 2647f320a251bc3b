package marlin_test

import (
	"bytes"
	"fmt"
	"math/big"
	"slices"
	"testing"

	"marlinspike/api"
	"marlinspike/decide"
	"marlinspike/fr"
	"marlinspike/keys"
	"marlinspike/marlin"
	"marlinspike/proof"
	"marlinspike/srs"
	"marlinspike/update"
)

// P1 to P5 and P29.4, the promises of the whole.

// P1: whatever a key's, inputs' and a proof's bytes are, the first error of the first one
// that is no good; else what the words tell of all three.
func TestVerifyWhateverBytesAre(t *testing.T) {
	s := numbers{state: 110}
	var all []question
	for _, k := range s.anyKeys()[:5] {
		f := forger{&s, question{k: k, in: s.anyInputs(k)}, 0}
		all = append(all, f.forged(atH1, atH2))
	}
	for _, w := range someProven(t)[:3] {
		all = append(all, w.question())
	}
	type one struct {
		what  string
		lists [3][]byte
		e     api.Errno
	}
	var l []one
	for i := range 250 {
		x := all[s.below(len(all))]
		if s.below(4) == 0 {
			x.in = slices.Clone(x.in)
			x.in[s.below(len(x.in))] = s.big()
		}
		if s.below(4) == 0 {
			*x.p.parts()[s.below(32)] = s.big()
		}
		if s.below(5) == 0 {
			x.k.d++
		}
		if s.below(9) == 0 {
			x.in = x.in[1:]
		}
		o := one{fmt.Sprint("the case ", i), [3][]byte{x.k.text(), textOfScalars(x.in...), x.p.text()}, x.verdict()}
		for j, kind := range slices.Backward([]string{"key", "scalars", "proof"}) { // so that the first one's error stays
			if s.below(5) == 0 && len(o.lists[j]) > 32 {
				w := wrongs(kind, o.lists[j])
				if bad := w[s.below(len(w))]; bad.e != api.ErrArg {
					o.lists[j], o.e = bad.text, bad.e
				}
			}
		}
		l = append(l, o)
	}
	count := map[api.Errno]int{}
	together(len(l), func(i int) {
		if e := marlin.VerifyBytes(l[i].lists[0], l[i].lists[1], l[i].lists[2]); e != l[i].e {
			t.Errorf("%s: %v, not %v", l[i].what, e, l[i].e)
		}
	})
	for _, x := range l {
		count[x.e]++
	}
	for _, e := range []api.Errno{api.OK, api.ErrArg, api.ErrReject, api.ErrShort, api.ErrLong, api.ErrForm, api.ErrField, api.ErrCurve, api.ErrGroup} {
		if count[e] < 3 {
			t.Errorf("only %d are told %v", count[e], e)
		}
	}
}

// P2, P29.4: whatever satisfies a circuit is proved, whatever draws, each proof is accepted,
// and comes back from its bytes; by other draws there are other bytes; the same call, made
// again, tells the same.
func TestWhateverSatisfiesIsProved(t *testing.T) {
	s := numbers{state: 111}
	l := append(tasks(), s.satisfied(sketch{40, 30, 16, 60, 40, 20}), s.satisfied(sketch{100, 90, 33, 100, 50, 20}))
	together(len(l), func(i int) {
		s, few := numbers{state: uint64(1100 + i)}, 2
		x := l[len(l)-1-i] // the greatest ones ahead
		if needOf(x.c) > 100 {
			few = 2
		}
		what := fmt.Sprint("the circuit ", i)
		setup := made(t, s.big(), s.big(), needOf(x.c)+i%3)
		k := keyOf(t, what, setup, x.c)
		text, e := k.Bytes()
		read, wrong := keys.Get(text)
		if e != api.OK || wrong != api.OK {
			t.Errorf("%s: %v, %v", what, e, wrong)
		}
		in, seen := els(x.z[:x.c.Inputs]), map[string]bool{}
		for j := range few {
			d := s.manyDraws(x.c)[(i+4*j)%11]
			p := proveOf(t, what, setup, x, d)
			b := p.Bytes()
			if j == 0 && !bytes.Equal(proveOf(t, what, setup, x, d).Bytes(), b) {
				t.Errorf("%s: asked again, it is another one", what)
			}
			back, e := proof.Get(b)
			if e != api.OK || !bytes.Equal(back.Bytes(), b) {
				t.Errorf("%s, the draws %d: read, %v", what, j, e)
			}
			one, two := marlin.Verify(k, in, p), marlin.Verify(read, in, back)
			if one != api.OK || two != api.OK {
				t.Errorf("%s, the draws %d: Verify: %v; read: %v", what, j, one, two)
			}
			seen[string(b)] = true
		}
		if len(seen) != few {
			t.Errorf("%s: by other draws they are the same: %d", what, len(seen))
		}
	})
}

// By setups that have been updated, over and over, by a chain that is accepted; a setup of
// the product of all secrets proves the same.
func TestProvedByUpdates(t *testing.T) {
	s := numbers{state: 112}
	for i, x := range []task{square(), task{api.Circuit{Rows: 1, Cols: 1, Inputs: 1}, wholes(1)}} {
		what := fmt.Sprint("the circuit ", i)
		secret, g, d := s.great(), s.great(), s.draws(x.c)
		first := made(t, secret, g, needOf(x.c))
		last, steps := first, []update.Step(nil)
		for range 3 {
			by := s.big()
			secret = times(secret, by)
			next, step, e := update.Update(last, el(by))
			if e != api.OK {
				t.Fatal(e)
			}
			last, steps = next, append(steps, step)
		}
		from, e1 := first.Bytes()
		to, e2 := last.Bytes()
		text, e3 := update.Bytes(steps)
		if e1 != api.OK || e2 != api.OK || e3 != api.OK {
			t.Fatal(e1, e2, e3)
		}
		if e := marlin.CheckSetups(from, to, text); e != api.OK {
			t.Errorf("%s: CheckSetups: %v", what, e)
		}
		if e := marlin.CheckSetups(from, to, text[:1]); e != api.ErrShort {
			t.Errorf("%s: CheckSetups of less: %v", what, e)
		}
		wantProven(t, what, last, expsOf(secret, g, needOf(x.c)), x, d)
		once := proveOf(t, what, made(t, secret, g, needOf(x.c)), x, d)
		again, e := marlin.ProveBytes(to, textOfCircuit(x.c), textOfScalars(x.z...), textOfScalars(d...))
		if e != api.OK || !bytes.Equal(once.Bytes(), again) {
			t.Errorf("%s: the setup of the product proves otherwise: %v", what, e)
		}
		k, e := marlin.Index(to, textOfCircuit(x.c))
		if e != api.OK {
			t.Errorf("%s: Index: %v", what, e)
		}
		if e := marlin.VerifyBytes(k, textOfScalars(x.z[:x.c.Inputs]...), again); e != api.OK {
			t.Errorf("%s: VerifyBytes: %v", what, e)
		}
		old, e := marlin.Index(from, textOfCircuit(x.c))
		if e != api.OK || marlin.VerifyBytes(old, textOfScalars(x.z[:x.c.Inputs]...), again) != api.ErrReject {
			t.Errorf("%s: by the key of the first setup it is accepted too, or %v", what, e)
		}
	}
}

// placesOf are where a circuit's variables lie, by chapter 23.
func placesOf(c api.Circuit) (l []int) {
	n, x, _ := sizesOf(c)
	for j := range int(c.Inputs) {
		l = append(l, j*n/x)
	}
	for place := range n {
		if place%(n/x) != 0 && len(l) < int(c.Cols) {
			l = append(l, place)
		}
	}
	return l
}

// P3: the sum over K of val, the Lagrange polynomial at row, and u at col is the padded
// matrix at every pair of H's elements; and the key's points are the commitments to those
// polynomials.
func TestTheIndexIsTheMatrices(t *testing.T) {
	l := slices.DeleteFunc(tasks(), func(x task) bool { n, _, m := sizesOf(x.c); return n*n*m > 1<<12 })
	if len(l) < 15 {
		t.Fatalf("only %d circuits", len(l))
	}
	together(len(l), func(i int) {
		x, s := l[i], numbers{state: uint64(1130 + i)}
		n, _, m := sizesOf(x.c)
		index, places := indexOf(t, x.c), placesOf(x.c)
		h, k := elementsOf(n), elementsOf(m)
		lagrange := func(i int, z *big.Int) *big.Int { return per(u(n, h[i], z), u(n, h[i], h[i])) }
		for j, entries := range matrices(&x.c) {
			matrix := map[[2]int]*big.Int{}
			for _, y := range *entries {
				matrix[[2]int{int(y.Row), places[y.Col]}] = numberOf(y.Val)
			}
			row, col, val := backs(index.Row[j]), backs(index.Col[j]), backs(index.Val[j])
			for one := range n {
				for two := range n {
					sum := whole(0)
					for _, z := range k {
						if at := worth(val, z); at.Sign() != 0 {
							sum = plus(sum, times(at, lagrange(one, worth(row, z)), u(n, h[two], worth(col, z))))
						}
					}
					wanted, is := matrix[[2]int{one, two}]
					if !is {
						wanted = whole(0)
					}
					if !same(sum, wanted) {
						t.Errorf("the circuit %d, the matrix %d at %d, %d: %v, not %v", i, j, one, two, sum, wanted)
					}
				}
			}
		}
		o := expsOf(s.big(), s.big(), needOf(x.c)+i%2)
		b, e := marlin.Index(o.text(), textOfCircuit(x.c))
		if e != api.OK {
			t.Errorf("the circuit %d: Index: %v", i, e)
			return
		}
		for j, p := range slices.Concat(index.Row[:], index.Col[:], index.Val[:]) {
			if at := 160 + 48*j; !bytes.Equal(b[at:at+48], texts1.tell(o.commitment(backs(p), nil))) {
				t.Errorf("the circuit %d: the point %d is not the commitment", i, j)
			}
		}
		numbers := keyTale{n: n, m: m, x: padded(t, x.c).X, inputs: int(x.c.Inputs), d: o.degree(), blind: o.blinds[0], tau: o.tau}
		numbers.c = [9]*big.Int(repeat(whole(0), 9))
		if wanted := numbers.text()[:160]; !bytes.Equal(b[:160], wanted) {
			t.Errorf("the circuit %d: the key begins with %x, not %x", i, b[:160], wanted)
		}
	})
}

// distinct are so many places off H and K, and no two alike.
func (s *numbers) distinct(count, n, m int) (l []*big.Int) {
	for len(l) < count {
		k := s.great()
		if v(n, k).Sign() != 0 && v(m, k).Sign() != 0 && !slices.ContainsFunc(l, func(o *big.Int) bool { return same(k, o) }) {
			l = append(l, k)
		}
	}
	return l
}

// roots is the polynomial that is 0 just at places.
func roots(l []*big.Int) []*big.Int {
	p := wholes(1)
	for _, z := range l {
		p = multiplied(p, []*big.Int{less(whole(0), z), whole(1)})
	}
	return p
}

// counted are at how many places the first equation holds of a second round's polynomials.
func (o first) counted(t *testing.T, x task, a *big.Int, e [3]*big.Int, two second, places []*big.Int) (count int) {
	t.Helper()
	n, size, m := sizesOf(x.c)
	for _, b := range places {
		values := decide.Values{
			W: el(worth(o.w, b)), A: el(worth(o.a, b)), B: el(worth(o.b, b)), S: el(worth(o.s, b)),
			T: el(worth(two.t, b)), G1: el(worth(two.g, b)), H1: el(worth(two.h, b)),
		}
		is, fault := decide.First(decide.Sizes{N: n, X: size, M: m}, els(x.z[:x.c.Inputs]), el(a), [3]fr.El(els(e[:])), el(b), values)
		if fault != api.OK {
			t.Fatal(fault)
		}
		if is {
			count++
		}
	}
	return count
}

// unsatisfied are tasks that do not satisfy their circuits.
func unsatisfied() (l []task) {
	for _, x := range tasks() {
		if n, _, _ := sizesOf(x.c); n > 8 {
			continue
		}
		l = append(l, x.brokenAt(0))
		y := x.clone()
		y.z[len(y.z)-1] = plus(y.z[len(y.z)-1], whole(1))
		if y.fails() > 0 && len(y.z) > 1 {
			l = append(l, y)
		}
	}
	return l
}

// P4: of an assignment that does not satisfy the circuit, where the sum over H is not 0,
// whatever G1 and H1 are put beside the index's T, of their degrees: the first equation holds
// at fewer than 3 N + 1 places; and there are some of which it holds at 3 N - 1.
func TestCountsOfTheFirstEquation(t *testing.T) {
	l := unsatisfied()
	if len(l) < 15 {
		t.Fatalf("only %d", len(l))
	}
	together(len(l), func(i int) {
		x, s := l[i], numbers{state: uint64(1200 + i)}
		shape := padded(t, x.c)
		n, index, d := shape.N, indexedOf(shape), s.draws(x.c)
		one := firstOf(shape, spread(t, shape, x.z), d)
		for j, e := range [][3]*big.Int{[3]*big.Int(wholes(0, 0, 1)), [3]*big.Int(s.list(3)), {s.great(), s.great(), s.great()}} {
			a := s.off(n)
			q := index.q(one, a, e)
			high, rest := divided(q, vanishing(n))
			if len(rest) == 0 || rest[0].Sign() == 0 {
				if j != 1 {
					t.Errorf("the task %d, e %d: the sum is 0", i, j)
				}
				continue
			}
			places := s.distinct(5*n, n, 1)
			chosen := roots(places[:3*n-1])
			_, left := divided(chosen, vanishing(n))
			best, low := divided(added(q, scaled(per(less(whole(0), rest[0]), left[0]), chosen)), vanishing(n))
			if len(low) > 0 && low[0].Sign() != 0 || len(best) > 2*n || len(low) > n {
				t.Fatal("these are not of their degrees")
			}
			honest, some, none := second{index.poly(e, a), lower(rest), high}, second{index.poly(e, a), s.list(n - 1), s.list(2 * n)}, second{t: index.poly(e, a)}
			for m, two := range []second{honest, some, none, {index.poly(e, a), lower(low), best}} {
				count, wanted := one.counted(t, x, a, e, two, places), 0
				if m == 3 {
					wanted = 3*n - 1
				}
				if count != wanted || count >= 3*n+1 {
					t.Errorf("the task %d, e %d, the polynomials %d: at %d of %d places, not %d", i, j, m, count, len(places), wanted)
				}
			}
		}
		long := made(t, whole(5), whole(7), needOf(x.c))
		refuseProve(t, fmt.Sprint("the task ", i), long, x.c, els(x.z), els(d), api.ErrCheck)
	})
}

// proved are a third round, and what stands beside it in the second equation.
type proved struct {
	x    indexed
	n    int
	a, b *big.Int
	e    [3]*big.Int
	t    *big.Int
	third
}

// counted are at how many places the second equation holds, scalars how many its longer side
// has, as a polynomial.
func (o proved) counted(t *testing.T, places []*big.Int) (count int) {
	t.Helper()
	for _, g := range places {
		values := decide.Values{T: el(o.t), G2: el(worth(o.g, g)), H2: el(worth(o.h, g))}
		for i, p := range o.x.polys {
			values.Row[i], values.Col[i], values.Val[i] = el(worth(p.row, g)), el(worth(p.col, g)), el(worth(p.val, g))
		}
		is, fault := decide.Second(decide.Sizes{N: o.n, X: 1, M: o.x.m}, el(o.a), [3]fr.El(els(o.e[:])), el(o.b), el(g), values)
		if fault != api.OK {
			t.Fatal(fault)
		}
		if is {
			count++
		}
	}
	return count
}

func (o proved) scalars() int {
	f := added([]*big.Int{per(o.t, whole(int64(o.x.m)))}, higher(o.g, 1))
	d := [3][]*big.Int{o.x.denominator(0, o.a, o.b), o.x.denominator(1, o.a, o.b), o.x.denominator(2, o.a, o.b)}
	left := scaled(minus(1), multiplied(f, d[0], d[1], d[2]))
	for i, others := range [3][2]int{{1, 2}, {0, 2}, {0, 1}} {
		upper := scaled(times(v(o.n, o.a), v(o.n, o.b), o.e[i]), o.x.polys[i].val)
		left = added(left, multiplied(upper, d[others[0]], d[others[1]]))
	}
	return max(len(left), len(multiplied(o.h, vanishing(o.x.m))))
}

// P4: if one polynomial of the third round is another one, of its degree, the second equation
// holds at fewer places than its sides have scalars; of some it holds at just one fewer.
func TestCountsOfTheSecondEquation(t *testing.T) {
	l := slices.DeleteFunc(tasks(), func(x task) bool { _, _, m := sizesOf(x.c); return m > 8 })
	together(len(l), func(i int) {
		x, s := l[i], numbers{state: uint64(1300 + i)}
		shape := padded(t, x.c)
		index, m := indexedOf(shape), shape.M
		o := proved{x: index, n: shape.N, a: s.off(shape.N), b: s.off(shape.N), e: [3]*big.Int{s.great(), s.great(), s.great()}}
		o.t, o.third = worth(index.poly(o.e, o.a), o.b), index.thirdOf(o.a, o.e, o.b)
		chosen := s.distinct(6*m-7, shape.N, m)
		places := slices.Concat(chosen, elementsOf(m), s.distinct(2*m, shape.N, m), wholes(0))
		if count := o.counted(t, places); count != len(places) {
			t.Errorf("the task %d: as it is, at %d of %d places", i, count, len(places))
		}
		other := o
		other.h = added(o.h, scaled(s.great(), roots(chosen)))
		if count, scalars := other.counted(t, places), other.scalars(); count != 7*m-7 || count >= scalars {
			t.Errorf("the task %d, another H2: at %d places, of %d scalars", i, count, scalars)
		}
		for j := range 6*m - 6 {
			other.h = added(o.h, higher([]*big.Int{s.great()}, j))
			if count, scalars := other.counted(t, places), other.scalars(); count >= scalars || count > m+1 {
				t.Errorf("the task %d, another scalar %d of H2: at %d places, of %d scalars", i, j, count, scalars)
			}
		}
		other = o
		other.g = added(o.g, scaled(s.great(), roots(chosen[:m-2])))
		if count, scalars := other.counted(t, places), other.scalars(); count >= scalars || count < m-1 || len(other.g) > m-1 {
			t.Errorf("the task %d, another G2: at %d places, of %d scalars", i, count, scalars)
		}
		for j := range m - 1 {
			other.g = added(o.g, higher([]*big.Int{s.great()}, j))
			if count, scalars := other.counted(t, places), other.scalars(); count >= scalars {
				t.Errorf("the task %d, another scalar %d of G2: at %d places, of %d scalars", i, j, count, scalars)
			}
		}
	})
}

// link is what CheckSetups may be asked, told by its multiples.
type link struct {
	what     string
	from, to exps
	hops     []hop
}

// good tells by the words whether a setup is.
func (x exps) good() bool {
	o := expsOf(x.tau, x.blinds[0], x.degree())
	if x.degree() < 1 || x.tau.Sign() == 0 || x.blinds[0].Sign() == 0 || len(x.blinds) != len(x.powers) {
		return false
	}
	for i := range x.powers {
		if !same(x.powers[i], o.powers[i]) || !same(x.blinds[i], o.blinds[i]) {
			return false
		}
	}
	return true
}

// verdict is what CheckSetups has to tell: whether both are good, of one degree and one
// blind, and the steps' scalars, none of them 0, lead from the one's secret to the other's.
func (l link) verdict() api.Errno {
	if !l.from.good() || !l.to.good() || l.from.degree() != l.to.degree() || !same(l.from.blinds[0], l.to.blinds[0]) {
		return api.ErrReject
	}
	secret := l.from.tau
	for _, x := range l.hops {
		if secret = times(secret, x.d); mod(x.d).Sign() == 0 || !same(secret, x.a) {
			return api.ErrReject
		}
	}
	if !same(secret, l.to.tau) {
		return api.ErrReject
	}
	return api.OK
}

// wantLinks fails if CheckSetups does not tell what it has to; so many are accepted.
func wantLinks(t *testing.T, l []link, accepted int) {
	t.Helper()
	for _, x := range l {
		if x.verdict() == api.OK {
			accepted--
		}
	}
	if accepted != 0 {
		t.Errorf("%d more must be accepted", accepted)
	}
	together(len(l), func(i int) {
		x := l[i]
		if e := marlin.CheckSetups(x.from.text(), x.to.text(), textOfHops(x.hops)); e != x.verdict() {
			t.Errorf("%s: %v, not %v", x.what, e, x.verdict())
		}
	})
}

// linkOf is a chain by these scalars.
func linkOf(tau, g *big.Int, n int, ds ...*big.Int) link {
	to := times(append(ds, tau)...)
	return link{fmt.Sprintf("%d steps from %v, %v, %d", len(ds), tau, g, n), expsOf(tau, g, n), expsOf(to, g, n), hopsOf(tau, ds...)}
}

// P5: chains of no step, of one, of several and of the most there may be.
func TestChains(t *testing.T) {
	s := numbers{state: 113}
	var l []link
	for count := range 5 {
		for n := 1; n <= 2; n++ {
			var ds []*big.Int
			for range count {
				ds = append(ds, s.big())
			}
			l = append(l, linkOf(s.big(), s.big(), n, ds...))
		}
	}
	all := slices.Repeat([]*big.Int{whole(3), per(whole(1), whole(3)), whole(-5)}, 11)
	l = append(l, linkOf(whole(2), whole(3), 1, all[:api.MaxChain]...), linkOf(whole(2), whole(3), 3, whole(1)))
	wantLinks(t, l, len(l))
	most := linkOf(whole(2), whole(3), 1, all...)
	if e := marlin.CheckSetups(most.from.text(), most.to.text(), textOfHops(most.hops)); e != api.ErrLong {
		t.Errorf("33 steps: %v", e)
	}
}

// P5: one point of a step, or of a setup, is another one; two steps have changed places; one
// is left out; setups of other degrees, blinds, secrets.
func TestNoChains(t *testing.T) {
	var l []link
	right := linkOf(whole(2), whole(3), 1, wholes(5, -7, 11)...)
	add := func(what string, change func(x *link)) {
		x := right
		x.what, x.hops = what, slices.Clone(right.hops)
		x.from.powers, x.from.blinds = slices.Clone(right.from.powers), slices.Clone(right.from.blinds)
		x.to.powers, x.to.blinds = slices.Clone(right.to.powers), slices.Clone(right.to.blinds)
		change(&x)
		l = append(l, x)
	}
	for i := range right.hops {
		for _, k := range append(wholes(0, 1, 5), minus(7)) {
			add(fmt.Sprint("another A of ", i), func(x *link) { x.hops[i].a = k })
			add(fmt.Sprint("another D of ", i), func(x *link) { x.hops[i].d = plus(k, whole(2)) })
		}
		add(fmt.Sprint("a far D of ", i), func(x *link) { x.hops[i].d = whole(0) })
		add(fmt.Sprint("a far step ", i), func(x *link) { x.hops[i] = hop{whole(0), whole(0)} })
		add(fmt.Sprint("without ", i), func(x *link) { x.hops = slices.Delete(x.hops, i, i+1) })
		add(fmt.Sprint("twice ", i), func(x *link) { x.hops = slices.Insert(x.hops, i, x.hops[i]) })
	}
	add("without steps", func(x *link) { x.hops = nil })
	add("the first two changed", func(x *link) { x.hops[0], x.hops[1] = x.hops[1], x.hops[0] })
	add("both setups changed", func(x *link) { x.from, x.to = x.to, x.from })
	add("to itself", func(x *link) { x.to = x.from })
	for i := range 2 {
		add(fmt.Sprint("another power ", i, " of the first"), func(x *link) { x.from.powers[i] = whole(9) })
		add(fmt.Sprint("another power ", i, " of the last"), func(x *link) { x.to.powers[i] = whole(9) })
		add(fmt.Sprint("another blind ", i, " of the first"), func(x *link) { x.from.blinds[i] = whole(9) })
		add(fmt.Sprint("another blind ", i, " of the last"), func(x *link) { x.to.blinds[i] = whole(9) })
	}
	add("another Tau of the first", func(x *link) { x.from.tau = whole(9) })
	add("another Tau of the last", func(x *link) { x.to.tau = whole(9) })
	add("a far Tau", func(x *link) { x.to.tau = whole(0) })
	add("another secret", func(x *link) { x.to = expsOf(whole(9), whole(3), 1) })
	add("another first secret", func(x *link) { x.from = expsOf(whole(9), whole(3), 1) })
	add("another g", func(x *link) { x.to = expsOf(x.to.tau, whole(4), 1) })
	add("another degree", func(x *link) { x.to = expsOf(x.to.tau, whole(3), 2) })
	add("a g of 0", func(x *link) {
		x.from, x.to = exps{x.from.powers, wholes(0, 0), x.from.tau}, exps{x.to.powers, wholes(0, 0), x.to.tau}
	})
	wantLinks(t, l, 0)
	add("as it is", func(x *link) {})
	add("by other scalars", func(x *link) { x.hops = hopsOf(whole(2), whole(-385)) })
	wantLinks(t, l[len(l)-2:], 2)
}

// P5: every chain of updates is accepted, whatever part of it.
func TestChainsOfUpdates(t *testing.T) {
	s := numbers{state: 114}
	setups, steps := []*srs.SRS{made(t, s.big(), s.big(), 2)}, []update.Step(nil)
	for range 4 {
		o, step, e := update.Update(setups[len(setups)-1], el(s.great()))
		if e != api.OK {
			t.Fatal(e)
		}
		setups, steps = append(setups, o), append(steps, step)
	}
	textOf := func(o *srs.SRS) []byte {
		b, e := o.Bytes()
		if e != api.OK {
			t.Error(e)
		}
		return b
	}
	together(len(setups)*len(setups), func(i int) {
		first, last := i/len(setups), i%len(setups)
		if first > last {
			return
		}
		text, e := update.Bytes(steps[first:last])
		if e != api.OK {
			t.Error(e)
		}
		from, to := textOf(setups[first]), textOf(setups[last])
		if e := marlin.CheckSetups(from, to, text); e != api.OK {
			t.Errorf("from %d to %d: %v", first, last, e)
		}
		if e := marlin.CheckSetups(to, from, text); e != api.ErrReject && first != last {
			t.Errorf("from %d back to %d: %v", last, first, e)
		}
	})
}
