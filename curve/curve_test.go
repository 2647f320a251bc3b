package curve_test

import (
	"fmt"
	"math/big"
	"slices"
	"testing"

	"marlinspike/api"
	"marlinspike/curve"
	"marlinspike/fq"
	"marlinspike/fq2"
	"marlinspike/nat"
)

func every(t *testing.T, do func(checks)) {
	t.Helper()
	for _, w := range worlds(t) {
		do(w)
	}
}

// P8.1

func TestPlaces(t *testing.T) { every(t, func(w checks) { w.places(t) }) }

func TestSame(t *testing.T) { every(t, func(w checks) { w.same(t) }) }

// All pairs of coordinates are asked about: points, and what is none.
func (w *world[E]) places(t *testing.T) {
	for _, p := range w.points {
		for _, q := range w.points {
			if !p.is || !q.is {
				continue
			}
			lies := slices.Contains(w.points, pair[E]{p.x, q.y, true})
			if !w.all {
				lies = q.y.Mul(q.y).Sub(p.x.Mul(p.x).Mul(p.x)) == w.b
			}
			w.place(t, p.x, q.y, lies)
			w.place(t, q.y, p.x, w.one.Mul(p.x).Mul(p.x) == q.y.Mul(q.y).Mul(q.y).Add(w.b))
			w.place(t, p.x.Add(w.one), q.y, p.x.Add(w.one).Mul(p.x.Add(w.one)).Mul(p.x.Add(w.one)).Add(w.b) == q.y.Mul(q.y))
		}
	}
	for _, p := range w.points {
		for i, v := range w.values(t, p) {
			if got := w.told(v); got != p {
				t.Errorf("%s: Affine of the value %d of %v is %v", w.name, i, p, got)
			}
		}
	}
}

// place asks about one pair.
func (w *world[E]) place(t *testing.T, x, y E, lies bool) {
	t.Helper()
	if w.c.On(x, y) != lies {
		t.Errorf("%s: On(%v, %v) is %v", w.name, x, y, !lies)
	}
	p, e := w.c.Of(x, y)
	if lies {
		if e != api.OK || w.told(p) != (pair[E]{x, y, true}) || w.c.Same(p, curve.Point[E]{}) {
			t.Errorf("%s: Of(%v, %v) is %v, %v", w.name, x, y, w.told(p), e)
		}
	} else if e != api.ErrCurve || p != (curve.Point[E]{}) {
		t.Errorf("%s: Of(%v, %v), that is no point, is %v, %v", w.name, x, y, p, e)
	}
}

func (w *world[E]) same(t *testing.T) {
	for i, p := range w.points {
		for j, q := range w.points {
			for _, v := range w.values(t, p) {
				if got := w.c.Same(v, w.some(t, q, i+j)); got != (i == j) {
					t.Errorf("%s: Same of %v and %v is %v", w.name, p, q, got)
				}
			}
		}
	}
}

// Every pair by a small number is asked about, by whole numbers.
func TestOnByWholeNumbers(t *testing.T) {
	for b := 1; b < 13; b++ {
		c := curve.New(by[thirteen](1), by[thirteen](b))
		for x := range 13 {
			for y := range 13 {
				on := (y*y-x*x*x-b)%13 == 0
				p, e := c.Of(by[thirteen](x), by[thirteen](y))
				if c.On(by[thirteen](x), by[thirteen](y)) != on || (e == api.OK) != on || (e == api.ErrCurve) == on || !on && p != (curve.Point[little[thirteen]]{}) {
					t.Errorf("b is %d: (%d, %d) lies on it: %v, %v", b, x, y, !on, e)
				}
			}
		}
	}
}

func TestPlacesOfCoordinates(t *testing.T) {
	c := curve.New(fq.Of(1), fq.Of(1))
	table := []struct {
		x, y int64
		on   bool
	}{
		{0, 1, true}, {0, -1, true}, {-1, 0, true}, {2, 3, true}, {2, -3, true}, {0, 0, false}, {1, 1, false}, {1, 0, false}, {3, 2, false}, {-2, 3, false}, {2, 2, false}, {1, 2, false},
	}
	for _, row := range table {
		x, y := fq.Of(row.x), fq.Of(row.y)
		p, e := c.Of(x, y)
		if c.On(x, y) != row.on {
			t.Errorf("On(%d, %d) is %v", row.x, row.y, !row.on)
		}
		gotX, gotY, is := c.Affine(p)
		if row.on && (e != api.OK || gotX != x || gotY != y || !is) || !row.on && (e != api.ErrCurve || p != curve.Point[fq.El]{}) {
			t.Errorf("Of(%d, %d) is %x, %x, %v, %v", row.x, row.y, gotX.Nat(), gotY.Nat(), is, e)
		}
	}
}

// The far one has no pair, whatever led to it.
func TestAffineOfTheFarOne(t *testing.T) {
	w := coordinates(t)
	p := w.value(t, w.points[1])
	two := w.value(t, pair[fq.El]{x: fq.Of(-1), is: true})
	sum, e := w.c.Sum([]curve.Point[fq.El]{p, p}, [][]uint64{{2}, {4}})
	if e != api.OK {
		t.Error(e)
	}
	far := []curve.Point[fq.El]{
		{}, w.c.Add(p, w.c.Neg(p)), w.c.Mul(p, nil), w.c.Mul(p, []uint64{6}), w.c.Neg(curve.Point[fq.El]{}), w.c.Add(two, two), w.c.Mul(two, []uint64{8}), sum,
	}
	for i, v := range far {
		if x, y, is := w.c.Affine(v); !x.IsZero() || !y.IsZero() || is {
			t.Errorf("%d: %x, %x, %v", i, x.Nat(), y.Nat(), is)
		}
		for _, other := range far {
			if !w.c.Same(v, other) || w.c.Same(v, p) || w.c.Same(p, v) {
				t.Errorf("%d is not the far one", i)
			}
		}
	}
}

// P8.2

func TestAdd(t *testing.T) { every(t, func(w checks) { w.adds(t) }) }

func TestNeg(t *testing.T) { every(t, func(w checks) { w.negatives(t) }) }

func TestMul(t *testing.T) { every(t, func(w checks) { w.multiples(t) }) }

func (w *world[E]) adds(t *testing.T) {
	for i, p := range w.points {
		for j, q := range w.points {
			for n, v := range w.values(t, p) {
				w.want(t, fmt.Sprint("Add of ", p, " and ", q), w.c.Add(v, w.some(t, q, n+i+j)), p.add(q))
			}
		}
		w.want(t, fmt.Sprint(p, " and its negative"), w.c.Add(w.some(t, p, i), w.some(t, p.neg(), i+1)), pair[E]{})
		w.want(t, fmt.Sprint("the far one and ", p), w.c.Add(curve.Point[E]{}, w.some(t, p, i)), p)
		w.want(t, fmt.Sprint(p, " and the far one"), w.c.Add(w.some(t, p, i), curve.Point[E]{}), p)
	}
}

func (w *world[E]) negatives(t *testing.T) {
	for _, p := range w.points {
		for _, v := range w.values(t, p) {
			w.want(t, fmt.Sprint("Neg of ", p), w.c.Neg(v), p.neg())
			w.want(t, fmt.Sprint("Neg of Neg of ", p), w.c.Neg(w.c.Neg(v)), p)
			if w.c.Same(w.c.Neg(v), v) != (!p.is || p.y.IsZero()) {
				t.Errorf("%s: Neg of %v", w.name, p)
			}
		}
	}
}

func (w *world[E]) multiples(t *testing.T) {
	for i, p := range w.points {
		sum := pair[E]{}
		for n := range uint64(2*len(w.points) + 3) {
			w.want(t, fmt.Sprint("Mul of ", p, " by ", n), w.c.Mul(w.some(t, p, i+int(n)), []uint64{n, 0}[:1+n%2]), sum)
			sum = sum.add(p)
		}
		for j, k := range exponents() {
			if w.all || (i+j)%3 == 0 { // with great numbers it takes long
				w.want(t, fmt.Sprint("Mul of ", p, " by ", k), w.c.Mul(w.some(t, p, j), k), p.mul(k))
			}
		}
	}
}

// wordsBeyond are numbers of more words than nat's calls take, some with words
// 0 at their end.
func wordsBeyond() [][]uint64 {
	ones := slices.Repeat([]uint64{1<<64 - 1}, api.MaxWords+3)
	return [][]uint64{ones[:9], ones[:api.MaxWords], ones, make([]uint64, 20000), append(append(make([]uint64, api.MaxWords+1), 5), 0, 0), append([]uint64{7}, make([]uint64, 500)...)}
}

// Numbers have no limit of words. By how many points there are, times a point
// is the far one: what is left of a number by that does the same.
func TestMulOfManyWords(t *testing.T) {
	w := coordinates(t)
	for i, p := range w.points {
		v := w.some(t, p, i)
		w.want(t, "a point, so often as there are points", w.c.Mul(v, fromBig(count())), pair[fq.El]{})
		for _, k := range wordsBeyond() {
			left := new(big.Int).Mod(bigOf(k), count())
			w.want(t, "Mul by many words", w.c.Mul(v, k), w.told(w.c.Mul(v, fromBig(left))))
		}
	}
	for _, k := range wordsBeyond() { // (2, 3) has the order 6
		left := new(big.Int).Mod(bigOf(k), big.NewInt(6))
		w.want(t, "Mul of (2, 3) by many words", w.c.Mul(w.value(t, w.points[1]), k), w.points[1].mul(fromBig(left)))
	}
}

// The order of a point tells when its multiples come round.
func TestSmallOrders(t *testing.T) {
	w := coordinates(t)
	table := []struct {
		x, y  int64
		order uint64
	}{{-1, 0, 2}, {0, 1, 3}, {0, -1, 3}, {2, 3, 6}, {2, -3, 6}}
	for _, row := range table {
		p := w.value(t, pair[fq.El]{fq.Of(row.x), fq.Of(row.y), true})
		for n := range uint64(40) {
			if got := w.c.Same(w.c.Mul(p, []uint64{n}), curve.Point[fq.El]{}); got != (n%row.order == 0) {
				t.Errorf("%d times (%d, %d) is the far one: %v", n, row.x, row.y, got)
			}
		}
	}
	far := pair[fq.El]{}
	two, three := pair[fq.El]{fq.Of(-1), fq.Of(0), true}, pair[fq.El]{fq.Of(0), fq.Of(1), true}
	for n := range 7 {
		w.want(t, "a point of the order 2, twice", w.c.Add(w.some(t, two, n), w.some(t, two, n+1)), far)
		w.want(t, "a point of the order 3, twice", w.c.Add(w.some(t, three, n), w.some(t, three, n+1)), three.neg())
		w.want(t, "both together", w.c.Add(w.some(t, two, n), w.some(t, three, n+1)), pair[fq.El]{fq.Of(2), fq.Of(-3), true})
	}
}

// P8.3

func TestSum(t *testing.T) { every(t, func(w checks) { w.sums(t) }) }

// byHand are all points, each as often as its number says, one by one.
func (w *world[E]) byHand(ps []pair[E], ks [][]uint64) (sum pair[E]) {
	for i, p := range ps {
		sum = sum.add(p.mul(ks[i]))
	}
	return sum
}

func (w *world[E]) wantSum(t *testing.T, ps []pair[E], ks [][]uint64) {
	t.Helper()
	var l []curve.Point[E]
	for i, p := range ps {
		l = append(l, w.some(t, p, i))
	}
	sum, e := w.c.Sum(l, ks)
	if e != api.OK {
		t.Errorf("%s: Sum of %d points: %v", w.name, len(ps), e)
	}
	w.want(t, fmt.Sprint("Sum of ", len(ps), " points by ", ks), sum, w.byHand(ps, ks))
}

func (w *world[E]) sums(t *testing.T) {
	w.wantSum(t, nil, nil)
	w.wantSum(t, []pair[E]{}, [][]uint64{})
	s := numbers{state: 3}
	for i, p := range w.points {
		q := w.points[(3*i+2)%len(w.points)]
		k := exponents()[i%len(exponents())]
		w.wantSum(t, []pair[E]{p}, [][]uint64{k})
		w.wantSum(t, []pair[E]{p, p.neg()}, [][]uint64{k, append(slices.Clone(k), 0)})
		w.wantSum(t, []pair[E]{p, p, p}, [][]uint64{{2}, {3, 0}, {uint64(i)}})
		w.wantSum(t, []pair[E]{p, q}, [][]uint64{{1}, {1}})
		w.wantSum(t, []pair[E]{p, {}, q}, [][]uint64{{5, 1}, {7}, nil})
		w.wantSum(t, []pair[E]{p, q, p}, [][]uint64{{0}, {}, {0, 0}})
		w.wantSum(t, []pair[E]{q, p}, [][]uint64{{s.word() % 256}, {s.word() % 256, 0, 0}})
	}
	for _, size := range []int{2, 3, 7, 8, 15, 16, 17, 20} {
		ps, ks := make([]pair[E], size), make([][]uint64, size)
		for i := range ps {
			ps[i], ks[i] = w.points[s.below(len(w.points))], []uint64{s.word() % 64}
		}
		w.wantSum(t, ps, ks)
	}
}

// Lists of many points, with numbers of unlike lengths; by small numbers.
func TestSumOfMany(t *testing.T) {
	s := numbers{state: 4}
	for _, b := range []int{0, 2, 5} { // with 7, 13, 9 points
		w := littleWorlds[seven]()[b].(*world[little[seven]])
		for _, size := range []int{1, 2, 5, 15, 16, 17, 31, 32, 33, 63, 64, 65, 127, 128, 300, 1000} {
			ps, ks := make([]pair[little[seven]], size), make([][]uint64, size)
			for i := range ps {
				ps[i], ks[i] = w.points[s.below(len(w.points))], s.list(5)
			}
			w.wantSum(t, ps, ks)
		}
	}
}

// The same by great numbers, held against what Mul and Add tell.
func TestSumOfManyCoordinates(t *testing.T) {
	s := numbers{state: 5}
	w := coordinates(t)
	for _, size := range []int{1, 2, 3, 15, 16, 40, 70, 130} {
		var ps []curve.Point[fq.El]
		var ks [][]uint64
		var sum curve.Point[fq.El]
		for i := range size {
			ps, ks = append(ps, w.some(t, w.points[s.below(len(w.points))], i)), append(ks, s.list(7))
			sum = w.c.Add(sum, w.c.Mul(ps[i], ks[i]))
		}
		got, e := w.c.Sum(ps, ks)
		if e != api.OK {
			t.Errorf("Sum of %d: %v", size, e)
		}
		w.want(t, fmt.Sprint("Sum of ", size), got, w.told(sum))
	}
}

// One number of many words among short ones.
func TestSumOfManyWords(t *testing.T) {
	w := coordinates(t)
	p, q := w.points[1], w.points[14]
	for _, k := range wordsBeyond() {
		left := fromBig(new(big.Int).Mod(bigOf(k), count()))
		got, e := w.c.Sum([]curve.Point[fq.El]{w.value(t, p), w.value(t, q), w.value(t, p)}, [][]uint64{{3}, k, {1, 0, 0}})
		want := w.c.Add(w.c.Mul(w.value(t, q), left), w.c.Mul(w.value(t, p), []uint64{4}))
		if e != api.OK {
			t.Error(e)
		}
		w.want(t, "Sum by many words", got, w.told(want))
	}
}

func TestSumRefusesUnlikeLengths(t *testing.T) {
	w := coordinates(t)
	for i := range 20 {
		for j := range 20 {
			ps, ks := make([]curve.Point[fq.El], i), make([][]uint64, j)
			for n := range ps {
				ps[n] = w.value(t, w.points[n%len(w.points)])
			}
			for n := range ks {
				ks[n] = []uint64{uint64(n)}
			}
			for _, c := range []*curve.Curve[fq.El]{w.c, nil} {
				sum, e := c.Sum(ps, ks)
				if i != j && (e != api.ErrArg || sum != curve.Point[fq.El]{}) || i == j && e != api.OK {
					t.Errorf("Sum of %d points by %d numbers, of a nil curve %v: %v, %v", i, j, c == nil, sum, e)
				}
			}
		}
	}
	p := []curve.Point[fq.El]{w.value(t, w.points[1])}
	for _, c := range []*curve.Curve[fq.El]{w.c, nil} {
		if sum, e := c.Sum(p, nil); e != api.ErrArg || sum != (curve.Point[fq.El]{}) {
			t.Errorf("Sum by no numbers: %v, %v", sum, e)
		}
		if sum, e := c.Sum(nil, [][]uint64{nil}); e != api.ErrArg || sum != (curve.Point[fq.El]{}) {
			t.Errorf("Sum of no points: %v, %v", sum, e)
		}
	}
}

// A nil curve has no points but the far one.
func TestNilCurve(t *testing.T) {
	nilOf(t, coordinates(t))
	nilOf(t, pairs(t, "pairs", fq2.Of(1, 0)))
	nilOf(t, littleWorlds[seven]()[2].(*world[little[seven]]))
}

func nilOf[E curve.Elem[E]](t *testing.T, w *world[E]) {
	var c *curve.Curve[E]
	var far curve.Point[E]
	for i, p := range w.points {
		v, q := w.some(t, p, i), w.some(t, w.points[(i+1)%len(w.points)], i)
		if c.On(p.x, p.y) {
			t.Errorf("%v lies on a nil curve", p)
		}
		if got, e := c.Of(p.x, p.y); got != far || e != api.ErrCurve {
			t.Errorf("Of(%v) of a nil curve: %v, %v", p, got, e)
		}
		if x, y, is := c.Affine(v); !x.IsZero() || !y.IsZero() || is {
			t.Errorf("Affine of a nil curve: %v, %v, %v", x, y, is)
		}
		if !c.Same(v, q) || !c.Same(v, far) || !c.Same(far, v) || !c.Same(far, far) || !c.Same(v, v) {
			t.Errorf("Same of a nil curve, of %v", p)
		}
		if c.Add(v, q) != far || c.Add(v, far) != far || c.Add(far, v) != far || c.Neg(v) != far || c.Mul(v, []uint64{1}) != far || c.Mul(v, nil) != far {
			t.Errorf("sums of a nil curve, of %v", p)
		}
		if sum, e := c.Sum([]curve.Point[E]{v, q}, [][]uint64{{1}, {2}}); sum != far || e != api.OK {
			t.Errorf("Sum of a nil curve: %v, %v", sum, e)
		}
	}
	if sum, e := c.Sum(nil, nil); sum != far || e != api.OK {
		t.Errorf("Sum of a nil curve, of nothing: %v, %v", sum, e)
	}
	if zero := w.b.Sub(w.b); c.On(zero, zero) {
		t.Error("0, 0 lies on a nil curve")
	}
}

// The document's examples.
func TestExamples(t *testing.T) {
	w := coordinates(t)
	if !w.c.On(fq.Of(0), fq.Of(1)) || w.c.On(fq.Of(1), fq.Of(1)) {
		t.Error("On")
	}
	p, e := w.c.Of(fq.Of(2), fq.Of(3))
	three := w.value(t, pair[fq.El]{fq.Of(0), fq.Of(1), true})
	if e != api.OK {
		t.Errorf("Of(2, 3): %v", e)
	}
	w.want(t, "(0, 1) twice", w.c.Add(three, three), pair[fq.El]{fq.Of(0), fq.Of(-1), true})
	w.want(t, "(2, 3) twice", w.c.Add(p, p), pair[fq.El]{fq.Of(0), fq.Of(1), true})
	w.want(t, "(2, 3) six times", w.c.Mul(p, nat.Of(6)), pair[fq.El]{})
}
