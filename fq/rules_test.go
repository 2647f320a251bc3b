package fq_test

import (
	"math"
	"math/big"
	"slices"
	"sync"
	"testing"

	"marlinspike/api"
	"marlinspike/fq"
)

// R1 to R6 for this layer's calls.

func TestNothingPanics(t *testing.T) {
	for _, n := range []int64{math.MinInt64, -1, 0, 1, 2, 7, 1 << 47, 1 << 62, math.MaxInt64} {
		x := fq.Of(n)
		for _, e := range [][]uint64{nil, {0}, {5}, {1<<64 - 1}, make([]uint64, 20000), append(make([]uint64, 500), 3)} {
			x.Pow(e)
		}
		x.Inv()
		x.Sqrt()
	}
	for i := range 48 {
		for bit := range 8 {
			var b [48]byte
			b[i] = 1 << bit
			x, _ := fq.From(b)
			x.Sqrt()
		}
	}
}

// spoil overwrites a list and the spare room behind it.
func spoil(l []uint64) {
	for i := range l[:cap(l)] {
		l[:cap(l)][i] = 57005
	}
}

func TestExponentsAreNotChangedAndNotKept(t *testing.T) {
	for _, was := range [][]uint64{{}, {0}, {5, 0}, {1, 2, 3, 4, 5, 6, 7, 8}} {
		room := append(slices.Clone(was), 77, 77, 77)
		e := room[:len(was)]
		x := fq.Of(3).Pow(e)
		if !slices.Equal(e, was) || !slices.Equal(room[len(was):], []uint64{77, 77, 77}) {
			t.Errorf("Pow changed its exponent %x", was)
		}
		spoil(e)
		want(t, "Pow", x, new(big.Int).Exp(big.NewInt(3), bigOf(was), q()))
	}
}

func TestAnswersAreNewMemory(t *testing.T) {
	spoil(fq.Modulus())
	if !slices.Equal(fq.Modulus(), fromBig(q())) {
		t.Errorf("Modulus became %x", fq.Modulus())
	}
	for _, b := range some(20) {
		x := coordinate(t, b)
		spoil(x.Nat())
		want(t, "From", x, b)
	}
}

// Coordinates are values: no call changes those that it is asked of.
func TestCoordinatesStay(t *testing.T) {
	x, y := fq.Of(7), fq.Of(-9)
	x.Add(y)
	x.Sub(y)
	x.Mul(y)
	x.Neg()
	x.Inv()
	x.Sqrt()
	y.Sqrt()
	x.Great()
	x.Pow([]uint64{5})
	want(t, "7", x, big.NewInt(7))
	want(t, "-9", y, big.NewInt(-9))
	same := x
	if same.Add(same) != fq.Of(14) || same.Sub(same) != fq.Of(0) || same.Mul(same) != fq.Of(49) {
		t.Error("7 with itself")
	}
}

// The calls may be asked by many at once, and tell them the same.
func TestManyAtOnce(t *testing.T) {
	var all sync.WaitGroup
	for n := range int64(8) {
		all.Go(func() {
			for i := range int64(20) {
				x := fq.Of(100*n + i + 1)
				inverse, e := x.Inv()
				root, again := x.Mul(x).Sqrt()
				_, none := x.Mul(x).Mul(fq.Of(5)).Sqrt()
				if e != api.OK || again != api.OK || none != api.ErrRoot || inverse.Mul(x) != fq.Of(1) || root != x {
					t.Errorf("%d and %d", n, i)
				}
			}
		})
	}
	all.Wait()
}
