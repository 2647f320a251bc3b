package group_test

import (
	"math/big"
	"slices"
	"testing"

	"marlinspike/api"
	"marlinspike/curve"
	"marlinspike/fq"
	"marlinspike/fr"
	"marlinspike/group"
)

// P9.4

func TestGeneratorsAreOfTheGroups(t *testing.T) { both(t, func(w checks) { w.pieces(t) }) }

func TestMultiplesGoByScalars(t *testing.T) { both(t, func(w checks) { w.scalars(t) }) }

func TestMultiplesGoOutOverSums(t *testing.T) { both(t, func(w checks) { w.sums(t) }) }

// pieces: a generator is a point, of the order r, which is a prime number: only
// 0 times, of all scalars, it is the far one.
func (w *world[E]) pieces(t *testing.T) {
	gen, far, c := w.gen(), curve.Point[E]{}, w.c()
	x, y, is := c.Affine(gen)
	if !is || !c.On(x, y) || c.Same(gen, far) || !w.in(gen) {
		t.Errorf("%s: the generator is no point of it", w.name)
	}
	if !c.Same(c.Mul(gen, fr.Modulus()), far) || !r().ProbablyPrime(20) || bigOf(fr.Modulus()).Cmp(r()) != 0 {
		t.Errorf("%s: r times the generator", w.name)
	}
	for _, k := range edges() {
		multiple := w.mul(gen, scalar(t, k))
		if !w.in(multiple) || c.Same(multiple, far) != (k.Sign() == 0) {
			t.Errorf("%s: %x times the generator", w.name, k)
		}
	}
}

// How many points a curve has is r times its cofactor: G1's has q - X.
func TestCofactors(t *testing.T) {
	count := new(big.Int).Sub(bigOf(fq.Modulus()), new(big.Int).SetUint64(api.X))
	if new(big.Int).Mul(r(), one(t).cofactor).Cmp(count) != 0 {
		t.Error("h1")
	}
	count.Mul(r(), two(t).cofactor)
	if two(t).found(1)[0].mul(count).is {
		t.Error("h2")
	}
}

// wantSame fails if two points of the curve are not the same.
func (w *world[E]) wantSame(t *testing.T, what string, p, q curve.Point[E]) {
	t.Helper()
	if !w.c().Same(p, q) {
		t.Errorf("%s: %s: %v and %v", w.name, what, w.told(p), w.told(q))
	}
}

func (w *world[E]) scalars(t *testing.T) {
	s, c := numbers{state: 7}, w.c()
	var l []fr.El
	for _, k := range []*big.Int{new(big.Int), big.NewInt(1), less(1), big.NewInt(12), less(77), s.next(), s.next()} {
		l = append(l, scalar(t, k))
	}
	for _, p := range []curve.Point[E]{w.gen(), w.mul(w.gen(), scalar(t, s.next())), {}} {
		for i, a := range l {
			at := w.mul(p, a)
			w.wantSame(t, "negatives", w.mul(p, a.Neg()), c.Neg(at))
			w.wantSame(t, "by a number", at, c.Mul(p, a.Nat()))
			if !w.in(at) {
				t.Errorf("%s: a multiple is not of the group", w.name)
			}
			b := l[(3*i+2)%len(l)]
			w.wantSame(t, "sums", w.mul(p, a.Add(b)), c.Add(at, w.mul(p, b)))
			w.wantSame(t, "differences", w.mul(p, a.Sub(b)), c.Add(at, c.Neg(w.mul(p, b))))
			w.wantSame(t, "products", w.mul(p, a.Mul(b)), w.mul(at, b))
			if inverse, e := a.Inv(); e == api.OK {
				w.wantSame(t, "inverses", w.mul(at, inverse), p)
			}
		}
	}
}

func (w *world[E]) sums(t *testing.T) {
	s, c, g := numbers{state: 8}, w.c(), w.gen()
	for range 4 {
		a, b, k := scalar(t, s.next()), scalar(t, s.next()), scalar(t, s.next())
		p, q := w.mul(g, a), w.mul(g, b)
		w.wantSame(t, "sums", w.mul(c.Add(p, q), k), c.Add(w.mul(p, k), w.mul(q, k)))
		w.wantSame(t, "negatives", w.mul(c.Neg(p), k), c.Neg(w.mul(p, k)))
		if !w.in(c.Add(p, q)) || !w.in(c.Neg(p)) {
			t.Errorf("%s: a sum is not of the group", w.name)
		}
	}
	p := w.value(t, w.found(1)[0])
	if w.in(c.Add(p, g)) || w.in(c.Add(c.Neg(g), p)) {
		t.Errorf("%s: a sum with what is not of the group", w.name)
	}
}

// Sums hang on no order, nor on how they are put together; they go by scalars.
func TestSumsGoTogether(t *testing.T) {
	w, s := one(t), numbers{state: 10}
	c, g := w.c(), group.Gen1()
	var ps, multiples []group.G1
	var ks, twice, ones []fr.El
	for range 20 {
		k := scalar(t, s.next())
		ps, ks, twice, ones = append(ps, group.Mul1(g, scalar(t, s.next()))), append(ks, k), append(twice, k.Add(k)), append(ones, fr.Of(1))
		multiples = append(multiples, group.Mul1(ps[len(ps)-1], k))
	}
	sum := func(ps []group.G1, ks []fr.El) group.G1 {
		p, e := group.Sum1(ps, ks)
		if e != api.OK {
			t.Error(e)
		}
		return p
	}
	all := sum(ps, ks)
	w.wantSame(t, "in two pieces", all, c.Add(sum(ps[:7], ks[:7]), sum(ps[7:], ks[7:])))
	w.wantSame(t, "of multiples", all, sum(multiples, ones))
	w.wantSame(t, "twice", c.Add(all, all), sum(ps, twice))
	w.wantSame(t, "undone", group.G1{}, sum(append(slices.Clone(ps), all), append(slices.Clone(ks), fr.Of(-1))))
	slices.Reverse(ps)
	slices.Reverse(ks)
	w.wantSame(t, "turned", all, sum(ps, ks))
	if !group.In1(all) {
		t.Error("a sum is not of the group")
	}
}
