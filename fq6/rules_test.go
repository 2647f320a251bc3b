package fq6_test

import (
	"math"
	"sync"
	"testing"

	"marlinspike/api"
	"marlinspike/fq2"
	"marlinspike/fq6"
)

// R1 to R6 for this layer's calls.

func TestNothingPanics(t *testing.T) {
	l := []int64{math.MinInt64, -1, 0, 1, 1 << 62, math.MaxInt64}
	for _, a := range l {
		for _, b := range l {
			for _, c := range l {
				x, y := fq6.El{A: fq2.Of(a, b), B: fq2.Of(c, a), C: fq2.Of(b, c)}, fq6.Of(a)
				x.IsZero()
				x.Neg()
				x.MulV()
				x.Inv()
				y.Inv()
				x.Scale(fq2.Of(c, b)).Inv()
				x.Add(y)
				x.Sub(y)
				x.Mul(y).Inv()
			}
		}
	}
}

// Elements are values: no call changes those that it is asked of.
func TestElementsStay(t *testing.T) {
	x := fq6.El{A: fq2.Of(7, 2), B: fq2.Of(-1, 3), C: fq2.Of(0, 5)}
	y := fq6.El{A: fq2.Of(-9, 4), B: fq2.Of(6, 0), C: fq2.Of(8, -8)}
	s := fq2.Of(3, -2)
	x.Add(y)
	x.Sub(y)
	x.Mul(y)
	x.Neg()
	x.MulV()
	x.Scale(s)
	x.Inv()
	y.Inv()
	want(t, "x", x, small(7, 2, -1, 3, 0, 5))
	want(t, "y", y, small(-9, 4, 6, 0, 8, -8))
	if s != fq2.Of(3, -2) {
		t.Error("3 - 2 u, after Scale")
	}
	same := x
	want(t, "x and itself", same.Add(same), small(14, 4, -2, 6, 0, 10))
	if same.Sub(same) != fq6.Of(0) || same != x {
		t.Error("x with itself")
	}
	want(t, "x times itself", same.Mul(same), told(x).mul(told(x)))
	want(t, "x, each part times its own first", same.Scale(same.A), small(29, 28, -37, 19, -50, 35))
}

// An element is told by its parts alone, whoever put them together.
func TestElementsPutTogether(t *testing.T) {
	var x fq6.El
	x.C = fq2.Of(4, 4).Sub(fq2.Of(0, 4))
	x.A = fq2.Of(1, 0).Add(fq2.Of(1, 3))
	if x != (fq6.El{A: fq2.Of(2, 3), C: fq2.Of(4, 0)}) || x != fq6.Of(4).MulV().MulV().Add(fq6.El{A: fq2.Of(2, 3)}) {
		t.Error("2 + 3 u + 4 v^2, put together")
	}
}

// The calls may be asked by many at once, and tell them the same.
func TestManyAtOnce(t *testing.T) {
	var all sync.WaitGroup
	for n := range int64(8) {
		all.Go(func() {
			for i := range int64(20) {
				x := fq6.El{A: fq2.Of(-i, 100*n+1), B: fq2.Of(n, i), C: fq2.Of(7, -n)}
				inverse, e := x.Inv()
				_, none := x.Sub(x).Inv()
				if e != api.OK || none != api.ErrZero || inverse.Mul(x) != one || x.MulV() != x.Mul(v) {
					t.Errorf("%d and %d", n, i)
				}
			}
		})
	}
	all.Wait()
}
