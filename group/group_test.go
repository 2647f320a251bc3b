package group_test

import (
	"fmt"
	"math/big"
	"testing"

	"marlinspike/api"
	"marlinspike/curve"
	"marlinspike/fq"
	"marlinspike/fq2"
	"marlinspike/fr"
	"marlinspike/group"
)

// P9.1

func TestCurves(t *testing.T) { both(t, func(w checks) { w.places(t) }) }

func TestGeneratorsAreTheFirstOnes(t *testing.T) { both(t, func(w checks) { w.search(t) }) }

// places asks about pairs: both points of an x, and what is none.
func (w *world[E]) places(t *testing.T) {
	points, none := 0, 0
	for n := range int64(20) {
		x := w.at(n)
		p, ok := w.lift(x)
		if !ok {
			none++
			if got, e := w.c().Of(x, x); w.c().On(x, x) || got != (curve.Point[E]{}) || e != api.ErrCurve {
				t.Errorf("%s: Of(%v, %v): %v, %v", w.name, x, x, got, e)
			}
			continue
		}
		points++
		for _, q := range []pair[E]{p, p.neg()} {
			got, e := w.c().Of(q.x, q.y)
			if !w.c().On(q.x, q.y) || e != api.OK {
				t.Errorf("%s: %v is no point: %v", w.name, q, e)
			}
			w.want(t, "Of", got, q)
		}
		if w.c().On(x, p.y.Add(p.y)) { // no y is 0 here
			t.Errorf("%s: above %v there is a point", w.name, p)
		}
		w.want(t, "Add", w.c().Add(w.value(t, p), w.value(t, p)), p.add(p))
	}
	if points < 5 || none < 5 {
		t.Errorf("%s: %d and %d", w.name, points, none)
	}
}

func TestPlacesOfCurve1(t *testing.T) {
	table := []struct {
		x, y int64
		on   bool
	}{
		{0, 1, true}, {0, -1, true}, {-1, 0, true}, {2, 3, true}, {2, -3, true},
		{0, 0, false}, {1, 1, false}, {1, 0, false}, {-2, 3, false}, {3, 2, false}, {2, 2, false},
	}
	for _, row := range table {
		if group.Curve1().On(fq.Of(row.x), fq.Of(row.y)) != row.on {
			t.Errorf("(%d, %d) lies on it: %v", row.x, row.y, !row.on)
		}
	}
}

// What is y^2 - x^3 of a point of G2's curve is 1 / u: times u it is 1, of all
// of them, and of no other pair.
func TestPlacesOfCurve2(t *testing.T) {
	u, c := fq2.Of(0, 1), group.Curve2()
	seen := map[bool]int{}
	for n := range int64(10) {
		for _, x := range []fq2.El{fq2.Of(n, 0), fq2.Of(n, 1), fq2.Of(1, n)} {
			for _, b := range []fq2.El{two(t).b, fq2.Of(1, 0), u, two(t).b.Neg(), {A: two(t).b.B}, fq2.Of(-5, 0)} {
				y, e := x.Mul(x).Mul(x).Add(b).Sqrt()
				if e != api.OK {
					continue
				}
				on := y.Mul(y).Sub(x.Mul(x).Mul(x)).Mul(u) == fq2.Of(1, 0)
				if c.On(x, y) != on || c.On(x, y.Neg()) != on {
					t.Errorf("%v, %v lies on it: %v", x, y, !on)
				}
				seen[on]++
			}
		}
	}
	if seen[true] < 8 || seen[false] < 8 || c.On(fq2.Of(2, 0), fq2.Of(3, 0)) {
		t.Errorf("%v", seen)
	}
}

// search goes from x to x by what the document says. Those before the
// generator's have no point, or one that so often is the far one.
func (w *world[E]) search(t *testing.T) {
	for n := int64(0); ; n++ {
		p, ok := w.lift(w.at(n))
		if ok {
			p = p.mul(w.cofactor)
		}
		if p.is {
			w.want(t, fmt.Sprint("the generator, of the x ", n), w.gen(), p)
			return
		}
	}
}

// Where the generators are found.
func TestWhereTheGeneratorsAre(t *testing.T) {
	w, v := one(t), two(t)
	zero, ok := w.lift(fq.Of(0))
	first, is := w.lift(fq.Of(1))
	if !ok || !is || zero.mul(w.cofactor).is || first.mul(w.cofactor) != w.told(group.Gen1()) {
		t.Error("G1: of the x 0 it is the far one, of 1 the generator")
	}
	_, ok = v.lift(fq2.Of(0, 1))
	_, is = v.lift(fq2.Of(1, 1))
	third, has := v.lift(fq2.Of(2, 1))
	if ok || is || !has || third.mul(v.cofactor) != v.told(group.Gen2()) {
		t.Error("G2: of the x u and 1 + u there is no point, of 2 + u the generator")
	}
}

// The generators as numbers, that were worked out apart from this program.
func TestGeneratorsAsNumbers(t *testing.T) {
	w, v := one(t), two(t)
	w.want(t, "Gen1", group.Gen1(), pair[fq.El]{
		coordinate(t, "008848defe740a67c8fc6225bf87ff5485951e2caa9d41bb188282c8bd37cb5cd5481512ffcd394eeab9b16eb21be9ef"),
		coordinate(t, "01914a69c5102eff1f674f5d30afeec4bd7fb348ca3e52d96d182ad44fb82305c2fe3d3634a9591afd82de55559c8ea6"),
		true,
	})
	w.want(t, "5 times Gen1", group.Mul1(group.Gen1(), fr.Of(5)), pair[fq.El]{
		coordinate(t, "0017052d4e3eb642d32ef4989af253cc2a30ad376ce8f0b23c92b987e95cc718d02072bb78d37c09fd76f7014eecf797"),
		coordinate(t, "016c206be738bf4644faff10bb82b19f6f07779903a6ad2524809ce29f94683be32bbdd072ec0be66ae0ed0d8781f277"),
		true,
	})
	v.want(t, "Gen2", group.Gen2(), pair[fq2.El]{
		fq2.El{
			A: coordinate(t, "006f72205595a839df693176b247c2fa251f7e02a29061e50540dc9e1c2bf1957bf1bab2288c257c2cb36b58f2418bc9"),
			B: coordinate(t, "0138c24b2b4e17888beed0a9802aac837cdea39890effe00072f754ecb0152dd6cb524f281298966dbaeca23d3e462b8"),
		},
		fq2.El{
			A: coordinate(t, "016235fdea6c3faf2a83d3730f6ab2c033ef6c2739002946f7dc48e4688bca1af1c9b417d58220817e0dc644b5e7d916"),
			B: coordinate(t, "00707ac6cc7d192827fc54eb83267f3bed8511bd3c74f63a1ea75eabb66476769c8786f2af2a75166f33142379b4963c"),
		},
		true,
	})
	v.want(t, "5 times Gen2", group.Mul2(group.Gen2(), fr.Of(5)), pair[fq2.El]{
		fq2.El{
			A: coordinate(t, "0050aca8646d0d9e5ca1aea779976c211f5ad94137c225c633edadc1bad71cecb41be8bfe11b6281259f671aa62f5849"),
			B: coordinate(t, "00072bb41e8eb9fa1e84682050c817e077b9bf68174275d22906562d9421fd8dcbfb27ff1e72f5006d0e5b7d1a13e0e2"),
		},
		fq2.El{
			A: coordinate(t, "00c105a9af5145d1f31cf8045efaca6fde308a257ca370de52cc6a42cfd9cebc342583c251e185c1313bf770e4e3a92e"),
			B: coordinate(t, "00b25258cd49d55e4aa17ea942d0bdf4b879cb2afd4e876457c298544e198060b16932f068dc52ce0560fd6ca0bd9e2e"),
		},
		true,
	})
}

// P9.2

func TestMembers(t *testing.T) { both(t, func(w checks) { w.members(t) }) }

// wantIn fails if In tells of one of a point's values what the model does not.
func (w *world[E]) wantIn(t *testing.T, what string, p pair[E], in bool) {
	t.Helper()
	for i, v := range w.several(t, p) {
		if w.in(v) != in {
			t.Errorf("%s: %s, told by its value %d, is of the group: %v", w.name, what, i, !in)
		}
	}
}

func (w *world[E]) members(t *testing.T) {
	gen := w.told(w.gen())
	if !w.in(w.gen()) || !w.in(curve.Point[E]{}) || !w.in(w.c().Mul(w.gen(), fr.Modulus())) {
		t.Errorf("%s: the generator, or the far one", w.name)
	}
	w.wantIn(t, "the far one", pair[E]{}, true)
	w.wantIn(t, "the generator", gen, true)
	w.wantIn(t, "its negative", gen.neg(), true)
	w.wantIn(t, "7 times it", gen.mul(big.NewInt(7)), true)
	for _, p := range w.found(6) {
		left := p.mul(r())
		w.wantIn(t, fmt.Sprint("the point of the x ", p.x), p, !left.is)
		w.wantIn(t, "r times it", left, !left.is)
		w.wantIn(t, "it and the generator", p.add(gen), !left.is)
		w.wantIn(t, "h times it", p.mul(w.cofactor), true)
		if left.is && left.mul(w.cofactor).is {
			t.Errorf("%s: %v is not of the curve's order", w.name, p)
		}
	}
}

// Points of small orders, none of which r is a multiple of.
func TestMembersOfSmallOrders(t *testing.T) {
	w := one(t)
	table := []struct{ x, y, order int64 }{{-1, 0, 2}, {0, 1, 3}, {0, -1, 3}, {2, 3, 6}, {2, -3, 6}}
	for _, row := range table {
		p := pair[fq.El]{fq.Of(row.x), fq.Of(row.y), true}
		w.wantIn(t, fmt.Sprintf("(%d, %d)", row.x, row.y), p, false)
		w.wantIn(t, "so often as its order", p.mul(big.NewInt(row.order)), true)
		w.wantIn(t, "and the generator", p.add(w.told(group.Gen1())), false)
	}
	// r (X - 1) times every point is the far one: what goes into X - 1 tells
	// points of those orders.
	all := new(big.Int).Mul(r(), atX(1, -1))
	for _, order := range []int64{4, 64, 7, 13, 91, 499} {
		p := w.ofOrder(t, all, order)
		w.wantIn(t, fmt.Sprint("a point whose order goes into ", order), p, false)
		w.wantIn(t, "so often", p.mul(big.NewInt(order)), true)
	}
}

// ofOrder is a point, not the far one, that so often as the order says is the
// far one; all times each point is it.
func (w *world[E]) ofOrder(t *testing.T, all *big.Int, order int64) (p pair[E]) {
	t.Helper()
	for _, q := range w.found(12)[4:] {
		if p = q.mul(over(t, all, order)); p.is {
			return p
		}
	}
	t.Fatalf("%s: no point of the order %d", w.name, order)
	return p
}

// P9.3

func TestMul(t *testing.T) { both(t, func(w checks) { w.multiples(t) }) }

func TestMulOfSeveralValues(t *testing.T) { both(t, func(w checks) { w.values(t) }) }

func (w *world[E]) multiples(t *testing.T) {
	points := append(w.found(2), w.told(w.gen()), pair[E]{})
	l := edges()
	s := numbers{state: 9}
	for range 3 {
		l = append(l, s.next())
	}
	for i, p := range points {
		for j, k := range l {
			if i < 3 && (i+j)%3 > 0 && j > 5 {
				continue // the model takes long
			}
			w.want(t, fmt.Sprintf("%x times %v", k, p), w.mul(w.value(t, p), scalar(t, k)), p.mul(k))
		}
	}
}

func (w *world[E]) values(t *testing.T) {
	for _, p := range []pair[E]{{}, w.told(w.gen()), w.found(1)[0]} {
		for _, k := range []*big.Int{big.NewInt(0), big.NewInt(1), big.NewInt(2), less(1)} {
			want := p.mul(k)
			for i, v := range w.several(t, p) {
				w.want(t, fmt.Sprintf("%x times the value %d of %v", k, i, p), w.mul(v, scalar(t, k)), want)
			}
		}
	}
}

// A point that is not of the group goes by the scalar's number, from 0 to
// r - 1: (2, 3) has the order 6, and r - 1 is a multiple of it.
func TestMulGoesByTheNumber(t *testing.T) {
	w := one(t)
	for _, p := range []pair[fq.El]{{fq.Of(2), fq.Of(3), true}, {fq.Of(2), fq.Of(-3), true}, {fq.Of(0), fq.Of(1), true}, {fq.Of(-1), fq.Of(0), true}} {
		v := w.value(t, p)
		for n := int64(-13); n <= 13; n++ {
			often := n
			if n < 0 {
				often = n + 1 // the number is r + n, and r by 6 is 1
			}
			want := p.mul(big.NewInt((often + 18) % 6))
			w.want(t, fmt.Sprint("Mul1 by ", n), group.Mul1(v, fr.Of(n)), want)
			sum, e := group.Sum1([]group.G1{v}, []fr.El{fr.Of(n)})
			if e != api.OK {
				t.Error(e)
			}
			w.want(t, fmt.Sprint("Sum1 by ", n), sum, want)
		}
	}
	p, _ := w.c().Of(fq.Of(2), fq.Of(3))
	if !w.c().Same(group.Mul1(p, fr.Of(-1)), group.G1{}) || w.c().Same(group.Mul1(p, fr.Of(-1)), w.c().Neg(p)) {
		t.Error("(2, 3), -1 times, is not its negative")
	}
	v := two(t)
	q := v.found(1)[0]
	v.want(t, "Mul2 by -1", group.Mul2(v.value(t, q), fr.Of(-1)), q.mul(less(1)))
	if v.told(group.Mul2(v.value(t, q), fr.Of(-1))) == q.neg() {
		t.Error("a point that is not of G2, -1 times, is not its negative")
	}
}

// wantSum fails if Sum1 is not what the model tells.
func wantSum(t *testing.T, what string, ps []pair[fq.El], ks ...*big.Int) {
	t.Helper()
	w := one(t)
	var points []group.G1
	var scalars []fr.El
	var sum pair[fq.El]
	for i, p := range ps {
		points, scalars = append(points, w.value(t, p)), append(scalars, scalar(t, ks[i]))
		sum = sum.add(p.mul(ks[i]))
	}
	got, e := group.Sum1(points, scalars)
	if e != api.OK {
		t.Errorf("%s: %v", what, e)
	}
	w.want(t, what, got, sum)
}

func TestSum(t *testing.T) {
	w := one(t)
	g := w.told(group.Gen1())
	l := w.found(4)
	s := numbers{state: 3}
	k := s.next()
	zero, single, far := new(big.Int), big.NewInt(1), pair[fq.El]{}
	wantSum(t, "none", nil)
	for _, p := range append(l, g, far) {
		wantSum(t, "one, never", []pair[fq.El]{p}, zero)
		wantSum(t, "one, once", []pair[fq.El]{p}, single)
		wantSum(t, "one, r - 1 times", []pair[fq.El]{p}, less(1))
		wantSum(t, "one", []pair[fq.El]{p}, k)
		wantSum(t, "a point and its negative", []pair[fq.El]{p, p.neg()}, k, k)
		wantSum(t, "the same several times", []pair[fq.El]{p, p, p}, big.NewInt(2), k, big.NewInt(3))
		wantSum(t, "beside the far one", []pair[fq.El]{far, p, far}, k, big.NewInt(5), less(1))
		wantSum(t, "never, all of them", []pair[fq.El]{p, g, p}, zero, zero, zero)
	}
	wantSum(t, "what cancels", []pair[fq.El]{g, g, g}, big.NewInt(3), less(5), big.NewInt(2))
	wantSum(t, "what cancels, k and -k", []pair[fq.El]{g, g}, k, new(big.Int).Sub(r(), k))
	wantSum(t, "of and beside the group", []pair[fq.El]{g, l[0], l[1], l[2], l[3]}, k, k, less(1), single, zero)
	wantSum(t, "3 G less 2 G", []pair[fq.El]{g, g.add(g)}, big.NewInt(3), less(1))
}

// Of many points it is what multiples and sums tell.
func TestSumOfMany(t *testing.T) {
	w := one(t)
	c, s := group.Curve1(), numbers{state: 4}
	for _, size := range []int{2, 3, 8, 16, 33, 65, 130} {
		var ps []group.G1
		var ks []fr.El
		var sum group.G1
		p := group.Gen1()
		for i := range size {
			k := scalar(t, s.next())
			if i%5 == 3 {
				k = fr.Of(int64(i % 7 * (i%3 - 1)))
			}
			ps, ks, sum = append(ps, p), append(ks, k), c.Add(sum, group.Mul1(p, k))
			p = c.Add(c.Add(p, p), w.value(t, w.found(3)[i%3]))
		}
		got, e := group.Sum1(ps, ks)
		if e != api.OK {
			t.Errorf("Sum1 of %d: %v", size, e)
		}
		w.want(t, fmt.Sprint("Sum1 of ", size), got, w.told(sum))
	}
}

func TestSumOfSeveralValues(t *testing.T) {
	w := one(t)
	for _, p := range []pair[fq.El]{w.told(group.Gen1()), {fq.Of(2), fq.Of(3), true}, {}} {
		l := w.several(t, p)
		ks, all := make([]fr.El, len(l)), int64(0)
		for i := range l {
			ks[i] = fr.Of(int64(3*i + 1))
			all += int64(3*i + 1)
		}
		sum, e := group.Sum1(l, ks)
		if e != api.OK {
			t.Error(e)
		}
		w.want(t, "Sum1 of one point's values", sum, p.mul(big.NewInt(all)))
	}
}

func TestSumRefusesUnlikeLengths(t *testing.T) {
	for i := range 12 {
		for j := range 12 {
			ps, ks := make([]group.G1, i), make([]fr.El, j)
			for n := range ps {
				ps[n] = group.Gen1()
			}
			for n := range ks {
				ks[n] = fr.Of(int64(n))
			}
			sum, e := group.Sum1(ps, ks)
			if i != j && (e != api.ErrArg || sum != group.G1{}) || i == j && e != api.OK {
				t.Errorf("Sum1 of %d points by %d scalars: %v, %v", i, j, sum, e)
			}
		}
	}
	for _, k := range []int{1, 1000} {
		if sum, e := group.Sum1(nil, make([]fr.El, k)); e != api.ErrArg || sum != (group.G1{}) {
			t.Errorf("Sum1 of no points: %v, %v", sum, e)
		}
		if sum, e := group.Sum1(make([]group.G1, k), []fr.El{}); e != api.ErrArg || sum != (group.G1{}) {
			t.Errorf("Sum1 by no scalars: %v, %v", sum, e)
		}
	}
	if sum, e := group.Sum1([]group.G1{}, nil); e != api.OK || sum != (group.G1{}) {
		t.Errorf("Sum1 of nothing: %v, %v", sum, e)
	}
}

// The document's examples.
func TestExamples(t *testing.T) {
	c := group.Curve1()
	p, e := c.Of(fq.Of(2), fq.Of(3))
	if !group.In1(group.Gen1()) || !group.In2(group.Gen2()) || group.In1(p) || e != api.OK {
		t.Errorf("In1, In2: %v", e)
	}
	if !c.Same(c.Mul(p, []uint64{6}), group.G1{}) || !c.Same(c.Add(group.Mul1(group.Gen1(), fr.Of(-1)), group.Gen1()), group.G1{}) {
		t.Error("the far one")
	}
}
