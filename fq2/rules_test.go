package fq2_test

import (
	"math"
	"slices"
	"sync"
	"testing"

	"marlinspike/api"
	"marlinspike/fq"
	"marlinspike/fq2"
)

// R1 to R6 for this layer's calls.

func TestNothingPanics(t *testing.T) {
	l := []int64{math.MinInt64, -1, 0, 1, 2, 1 << 62, math.MaxInt64}
	for _, a := range l {
		for _, b := range l {
			x := fq2.Of(a, b)
			for _, e := range [][]uint64{nil, {0}, {5}, {1<<64 - 1}, make([]uint64, 20000), append(make([]uint64, 90), 3)} {
				x.Pow(e)
			}
			x.IsZero()
			x.Great()
			x.Norm()
			x.Inv()
			x.Sqrt()
			x.Conj().Sqrt()
		}
	}
}

// spoil overwrites a list and the spare room behind it.
func spoil(l []uint64) {
	for i := range l[:cap(l)] {
		l[:cap(l)][i] = 57005
	}
}

func TestExponentsAreNotChangedAndNotKept(t *testing.T) {
	for _, was := range [][]uint64{{}, {0}, {5, 0}, {1, 2, 3, 4, 5, 6, 7, 8}} {
		room := append(slices.Clone(was), 77, 77, 77)
		e := room[:len(was)]
		x := fq2.Of(3, -2).Pow(e)
		if !slices.Equal(e, was) || !slices.Equal(room[len(was):], []uint64{77, 77, 77}) {
			t.Errorf("Pow changed its exponent %x", was)
		}
		spoil(e)
		want(t, "Pow", x, small(3, -2).pow(bigOf(was)))
		want(t, "Pow, again", fq2.Of(3, -2).Pow(was), small(3, -2).pow(bigOf(was)))
	}
}

// Elements are values: no call changes those that it is asked of.
func TestElementsStay(t *testing.T) {
	x, y := fq2.Of(7, 2), fq2.Of(-9, 4)
	x.Add(y)
	x.Sub(y)
	x.Mul(y)
	x.Neg()
	x.Conj()
	x.Norm()
	x.Inv()
	x.Sqrt()
	y.Sqrt()
	x.Great()
	x.Pow([]uint64{5})
	want(t, "7 + 2 u", x, small(7, 2))
	want(t, "-9 + 4 u", y, small(-9, 4))
	same := x
	if same.Add(same) != fq2.Of(14, 4) || same.Sub(same) != fq2.Of(0, 0) || same.Mul(same) != fq2.Of(29, 28) {
		t.Error("7 + 2 u with itself")
	}
}

// An element is told by its coordinates alone, whoever put them together.
func TestElementsPutTogether(t *testing.T) {
	x := fq2.El{A: fq.Of(2), B: fq.Of(3)}
	var y fq2.El
	y.B = fq.Of(3)
	y.A = fq.Of(1).Add(fq.Of(1))
	if x != fq2.Of(2, 3) || y != x || x.Mul(y) != fq2.Of(-41, 12) {
		t.Error("2 + 3 u, put together")
	}
}

// The calls may be asked by many at once, and tell them the same.
func TestManyAtOnce(t *testing.T) {
	var all sync.WaitGroup
	for n := range int64(8) {
		all.Go(func() {
			for i := range int64(20) {
				x := fq2.Of(-i, 100*n+1)
				inverse, e := x.Inv()
				root, again := x.Mul(x).Sqrt()
				_, none := x.Mul(x).Mul(fq2.Of(0, 1)).Sqrt()
				if e != api.OK || again != api.OK || none != api.ErrRoot || inverse.Mul(x) != fq2.Of(1, 0) || root != x {
					t.Errorf("%d and %d", n, i)
				}
			}
		})
	}
	all.Wait()
}
