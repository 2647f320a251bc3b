package fq12_test

import (
	"math"
	"slices"
	"sync"
	"testing"

	"marlinspike/api"
	"marlinspike/fq12"
	"marlinspike/fq2"
	"marlinspike/fq6"
)

// R1 to R6 for this layer's calls.

func TestNothingPanics(t *testing.T) {
	l := []int64{math.MinInt64, -1, 0, 1, math.MaxInt64}
	for _, a := range l {
		for _, b := range l {
			for _, c := range l {
				x := fq12.Join([6]fq2.El{fq2.Of(a, b), fq2.Of(c, a), fq2.Of(b, c), fq2.Of(c, c), fq2.Of(a, c), fq2.Of(b, a)})
				y := fq12.Of(a)
				x.IsZero()
				x.Neg()
				x.Parts()
				x.Conj().Inv()
				x.Frob().Inv()
				y.Inv()
				x.Add(y)
				x.Sub(y)
				x.Mul(y).Inv()
				x.Pow([]uint64{uint64(b)})
			}
		}
	}
	for _, x := range []fq12.El{{}, one, w, u.Add(w)} {
		for _, e := range [][]uint64{nil, {0}, {5}, {1<<64 - 1}, make([]uint64, 20000), append(make([]uint64, 90), 3)} {
			x.Pow(e)
		}
	}
}

// spoil overwrites a list and the spare room behind it.
func spoil(l []uint64) {
	for i := range l[:cap(l)] {
		l[:cap(l)][i] = 57005
	}
}

func TestExponentsAreNotChangedAndNotKept(t *testing.T) {
	m := small(3, -2, 0, 1)
	for _, was := range [][]uint64{{}, {0}, {5, 0}, {1, 2, 3, 4}} {
		room := append(slices.Clone(was), 77, 77, 77)
		e := room[:len(was)]
		x := element(t, m).Pow(e)
		if !slices.Equal(e, was) || !slices.Equal(room[len(was):], []uint64{77, 77, 77}) {
			t.Errorf("Pow changed its exponent %x", was)
		}
		spoil(room)
		want(t, "Pow", x, m.pow(bigOf(was)))
		want(t, "Pow, again", element(t, m).Pow(was), m.pow(bigOf(was)))
	}
}

// Arrays are values: what is written into one shows in no element.
func TestPartsAreNotShared(t *testing.T) {
	m := small(1, 2, 3, 4, 5, 6, 7, 8, 9, 10, 11, 12)
	handed := element(t, m).Parts()
	x := fq12.Join(handed)
	answered := x.Parts()
	for i := range handed {
		handed[i], answered[i] = fq2.Of(-1, -1), fq2.Of(-2, -2)
	}
	want(t, "Join", x, m)
	if x.Parts() != element(t, m).Parts() {
		t.Error("Parts, once the first ones were overwritten")
	}
}

// Elements are values: no call changes those that it is asked of.
func TestElementsStay(t *testing.T) {
	m, n := small(7, 2, -1, 3, 0, 5, 1, 0, 0, 4, -6, 8), small(-9, 4, 6, 0, 8, -8, 0, 0, 1)
	x, y := element(t, m), element(t, n)
	x.Add(y)
	x.Sub(y)
	x.Mul(y)
	x.Neg()
	x.Conj()
	x.Frob()
	x.Parts()
	x.Inv()
	y.Inv()
	x.Pow([]uint64{5})
	want(t, "x", x, m)
	want(t, "y", y, n)
	same := x
	want(t, "x and itself", same.Add(same), m.add(m))
	want(t, "x times itself", same.Mul(same), m.mul(m))
	if same.Sub(same) != fq12.Of(0) || same != x {
		t.Error("x with itself")
	}
}

// An element is told by its parts alone, whoever put them together.
func TestElementsPutTogether(t *testing.T) {
	var x fq12.El
	x.B.C = fq2.Of(4, 4).Sub(fq2.Of(0, 4))
	x.A = fq6.El{A: fq2.Of(1, 0).Add(fq2.Of(1, 3))}
	if x != fq12.Join([6]fq2.El{fq2.Of(2, 3), {}, {}, {}, {}, fq2.Of(4, 0)}) || x != fq12.Of(4).Mul(w.Pow([]uint64{5})).Add(fq12.Of(2)).Add(fq12.Of(3).Mul(u)) {
		t.Error("2 + 3 u + 4 w^5, put together")
	}
}

// The calls may be asked by many at once, and tell them the same.
func TestManyAtOnce(t *testing.T) {
	var all sync.WaitGroup
	for n := range int64(8) {
		all.Go(func() {
			for i := range int64(10) {
				x := fq12.Join([6]fq2.El{fq2.Of(-i, 100*n+1), fq2.Of(n, i), fq2.Of(7, -n), {}, fq2.Of(i, i), fq2.Of(0, n)})
				inverse, e := x.Inv()
				_, none := x.Sub(x).Inv()
				six := x
				for range 6 {
					six = six.Frob()
				}
				if e != api.OK || none != api.ErrZero || inverse.Mul(x) != one || six != x.Conj() || x.Pow([]uint64{3}) != x.Mul(x).Mul(x) {
					t.Errorf("%d and %d", n, i)
				}
			}
		})
	}
	all.Wait()
}
