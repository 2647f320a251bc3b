package curve_test

import (
	"slices"
	"sync"
	"testing"

	"marlinspike/api"
	"marlinspike/curve"
	"marlinspike/fq"
	"marlinspike/fq2"
)

// R1 to R6 for this layer's calls.

// Points that no call told, and curves of any numbers, even none.
func TestNothingPanics(t *testing.T) {
	l := []fq.El{fq.Of(0), fq.Of(1), fq.Of(-1), fq.Of(2), fq.Of(3)}
	curves := []*curve.Curve[fq.El]{nil, new(curve.Curve[fq.El]), curve.New(fq.Of(1), fq.Of(1))}
	var points []curve.Point[fq.El]
	for _, x := range l {
		for _, y := range l {
			curves = append(curves, curve.New(x, y))
			for _, z := range l[:4] {
				points = append(points, curve.Point[fq.El]{X: x, Y: y, Z: z})
			}
		}
	}
	ks := [][]uint64{nil, {0}, {5}, {1<<64 - 1, 0}}
	for _, c := range curves {
		for i, p := range points {
			q := points[(7*i+3)%len(points)]
			c.On(p.X, p.Y)
			c.Of(p.X, p.Z)
			c.Affine(p)
			c.Same(p, q)
			c.Same(p, p)
			c.Add(p, q)
			c.Add(p, p)
			c.Add(p, c.Neg(p))
			c.Mul(p, ks[i%len(ks)])
			c.Sum([]curve.Point[fq.El]{p, q, p}, ks[1:])
			c.Sum([]curve.Point[fq.El]{p, q}, ks)
		}
		c.Mul(curve.Point[fq.El]{}, slices.Repeat([]uint64{1<<64 - 1}, 20000))
	}
}

// spoil overwrites a list and the spare room behind it.
func spoil[T any](l []T, with T) {
	for i := range l[:cap(l)] {
		l[:cap(l)][i] = with
	}
}

// Numbers and points stay as they are, with the room behind their ends, and
// what is written there afterwards shows in no answer.
func TestArgumentsAreNotChangedAndNotKept(t *testing.T) {
	w := coordinates(t)
	p, q := w.value(t, w.points[1]), w.value(t, w.points[14])
	first, second := append([]uint64{5, 0}, 77, 77)[:2], append([]uint64{1, 2, 0}, 78)[:3]
	ks := append([][]uint64{first, second}, []uint64{79}, []uint64{80})[:2]
	ps := append([]curve.Point[fq.El]{p, q}, q, q)[:2]
	multiple := w.c.Mul(p, first)
	sum, e := w.c.Sum(ps, ks)
	_, refused := w.c.Sum(ps, ks[:1])
	if e != api.OK || refused != api.ErrArg {
		t.Errorf("%v, %v", e, refused)
	}
	if !slices.Equal(first[:4], []uint64{5, 0, 77, 77}) || !slices.Equal(second[:4], []uint64{1, 2, 0, 78}) {
		t.Error("the words were changed")
	}
	if len(ks) != 2 || !slices.Equal(ks[:4][2], []uint64{79}) || !slices.Equal(ks[:4][3], []uint64{80}) || !slices.Equal(ks[1], []uint64{1, 2, 0}) {
		t.Error("the numbers were changed")
	}
	if !slices.Equal(ps[:4], []curve.Point[fq.El]{p, q, q, q}) {
		t.Error("the points were changed")
	}
	spoil(first, 9)
	spoil(second, 9)
	spoil(ks, nil)
	spoil(ps, curve.Point[fq.El]{})
	wanted := w.points[1].mul([]uint64{5})
	w.want(t, "Mul", multiple, wanted)
	w.want(t, "Mul, again", w.c.Mul(p, []uint64{5}), wanted)
	wanted = wanted.add(w.points[14].mul([]uint64{1, 2}))
	w.want(t, "Sum", sum, wanted)
	sum, e = w.c.Sum([]curve.Point[fq.El]{p, q}, [][]uint64{{5}, {1, 2}})
	if e != api.OK {
		t.Error(e)
	}
	w.want(t, "Sum, again", sum, wanted)
}

// Points are values: no call changes those that it is asked of, nor the curve.
func TestPointsStay(t *testing.T) {
	w := coordinates(t)
	p, q := w.some(t, w.points[1], 5), w.some(t, w.points[14], 6)
	sameP, sameQ, sameC := p, q, *w.c
	w.c.Add(p, q)
	w.c.Add(p, p)
	w.c.Neg(p)
	w.c.Mul(p, []uint64{5})
	w.c.Sum([]curve.Point[fq.El]{p, q}, [][]uint64{{1}, {2}})
	w.c.Affine(p)
	w.c.Same(p, q)
	w.c.Of(fq.Of(1), fq.Of(1))
	if p != sameP || q != sameQ || *w.c != sameC {
		t.Error("what was asked of was changed")
	}
	w.want(t, "p", p, w.points[1])
	w.want(t, "q", q, w.points[14])
}

// Curves stand apart: what is done by one shows in no other.
func TestCurvesStandApart(t *testing.T) {
	ones, twos := curve.New(fq.Of(1), fq.Of(1)), curve.New(fq.Of(1), fq.Of(2))
	again := curve.New(fq.Of(1), fq.Of(1))
	for range 3 {
		if !ones.On(fq.Of(2), fq.Of(3)) || twos.On(fq.Of(2), fq.Of(3)) || !twos.On(fq.Of(-1), fq.Of(1)) || ones.On(fq.Of(-1), fq.Of(1)) {
			t.Error("1 and 2")
		}
		p, e := ones.Of(fq.Of(2), fq.Of(3))
		_, other := twos.Of(fq.Of(2), fq.Of(3))
		if e != api.OK || other != api.ErrCurve || !again.Same(ones.Add(p, p), again.Mul(p, []uint64{2})) {
			t.Errorf("%v, %v", e, other)
		}
	}
}

// The calls may be asked by many at once, of one curve, and tell them the same.
func TestManyAtOnce(t *testing.T) {
	w := pairs(t, "pairs", fq2.Of(1, 0))
	p, q := w.value(t, w.points[3]), w.value(t, w.points[5])
	var all sync.WaitGroup
	for n := range uint64(8) {
		all.Go(func() {
			for i := range uint64(5) {
				sum, e := w.c.Sum([]curve.Point[fq2.El]{p, q}, [][]uint64{{n, 1}, {i, i}})
				if e != api.OK || !w.c.Same(sum, w.c.Add(w.c.Mul(q, []uint64{i, i}), w.c.Mul(p, []uint64{n, 1}))) {
					t.Errorf("%d and %d: %v", n, i, e)
				}
			}
		})
	}
	all.Wait()
}
