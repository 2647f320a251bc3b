package fr_test

import (
	"bytes"
	"math"
	"math/big"
	"slices"
	"sync"
	"testing"

	"marlinspike/api"
	"marlinspike/fr"
)

// R1 to R6 for this layer's calls.

func TestNothingPanics(t *testing.T) {
	for _, n := range []int{math.MinInt, -1, 0, 1, 2, 7, 1 << 47, 1 << 48, 1 << 62, math.MaxInt} {
		fr.Root(n)
		x := fr.Of(int64(n))
		for _, e := range [][]uint64{nil, {0}, {5}, {1<<64 - 1}, make([]uint64, 20000), append(make([]uint64, 500), 3)} {
			x.Pow(e)
		}
		x.Inv()
		fr.Invert([]fr.El{x, x})
	}
	for _, n := range []int{0, 1, 63, 64, 65, 1 << 20} {
		fr.Reduce(make([]byte, n))
		fr.Reduce(bytes.Repeat([]byte{0xff}, n))
	}
	fr.Invert(nil)
	for i := range 32 {
		for bit := range 8 {
			var s api.Scalar
			s[i] = 1 << bit
			fr.From(s)
		}
	}
}

// spoil overwrites a list and the spare room behind it.
func spoil[T any](l []T, junk T) {
	for i := range l[:cap(l)] {
		l[:cap(l)][i] = junk
	}
}

// roomy is the list with room behind its end that nobody may touch.
func roomy[T any](l []T, junk T) []T {
	return append(append(make([]T, 0, len(l)+3), l...), junk, junk, junk)[:len(l)]
}

// untouched tells whether a list made by roomy, and its room, are as they were.
func untouched[T comparable](l, was []T, junk T) bool {
	return slices.Equal(l[:cap(l)], append(slices.Clone(was), junk, junk, junk))
}

func TestListsAreNotChangedAndNotKept(t *testing.T) {
	all := slices.DeleteFunc(scalars(t, some(5)), fr.El.IsZero)
	junk := fr.Of(57005)
	for _, was := range [][]fr.El{nil, all[:1], all, append(slices.Clone(all), fr.El{})} {
		l := roomy(was, junk)
		got, e := fr.Invert(l)
		if !untouched(l, was, junk) {
			t.Errorf("Invert changed its list of %d", len(was))
		}
		spoil(l, junk)
		again, _ := fr.Invert(was)
		if !slices.Equal(got, again) {
			t.Errorf("Invert of %d, %v: the answer is the memory that was handed in", len(was), e)
		}
	}
	for _, was := range [][]byte{{}, {1, 2, 3}, bytes.Repeat([]byte{9}, 64), bytes.Repeat([]byte{9}, 65)} {
		b := roomy(was, 77)
		fr.Reduce(b)
		if !untouched(b, was, 77) {
			t.Errorf("Reduce changed its %d bytes", len(was))
		}
	}
	for _, was := range [][]uint64{{}, {0}, {5, 0}, {1, 2, 3, 4, 5, 6}} {
		e := roomy(was, 77)
		x := fr.Of(3).Pow(e)
		if !untouched(e, was, 77) {
			t.Errorf("Pow changed its exponent %x", was)
		}
		spoil(e, 77)
		want(t, "Pow", x, new(big.Int).Exp(big.NewInt(3), bigOf(was), r()))
	}
}

func TestAnswersAreNewMemory(t *testing.T) {
	spoil(fr.Modulus(), 57005)
	if !slices.Equal(fr.Modulus(), fromBig(r())) {
		t.Errorf("Modulus became %x", fr.Modulus())
	}
	for _, b := range some(20) {
		x := scalar(t, b)
		spoil(x.Nat(), 57005)
		want(t, "From", x, b)
	}
	l := []fr.El{fr.Of(2), fr.Of(3)}
	first, _ := fr.Invert(l)
	spoil(first, fr.Of(57005))
	again, e := fr.Invert(l)
	if e != api.OK || again[0].Mul(l[0]) != fr.Of(1) || again[1].Mul(l[1]) != fr.Of(1) || l[0] != fr.Of(2) || l[1] != fr.Of(3) {
		t.Errorf("Invert shows what was written into an answer: %v", e)
	}
}

// Scalars are values: no call changes those that it is asked of.
func TestScalarsStay(t *testing.T) {
	x, y := fr.Of(7), fr.Of(-9)
	x.Add(y)
	x.Sub(y)
	x.Mul(y)
	x.Neg()
	x.Inv()
	x.Pow([]uint64{5})
	want(t, "7", x, big.NewInt(7))
	want(t, "-9", y, big.NewInt(-9))
	same := x
	if same.Add(same) != fr.Of(14) || same.Sub(same) != fr.Of(0) || same.Mul(same) != fr.Of(49) {
		t.Error("7 with itself")
	}
}

// The calls may be asked by many at once, and tell them the same.
func TestManyAtOnce(t *testing.T) {
	root, _ := fr.Root(1 << 20)
	var all sync.WaitGroup
	for n := range int64(8) {
		all.Go(func() {
			for i := range int64(20) {
				x := fr.Of(100*n + i + 1)
				inverses, e := fr.Invert([]fr.El{x, x.Neg()})
				again, _ := fr.Root(1 << 20)
				if e != api.OK || inverses[0].Mul(x) != fr.Of(1) || inverses[1].Mul(x) != fr.Of(-1) || again != root {
					t.Errorf("%d and %d", n, i)
				}
			}
		})
	}
	all.Wait()
}
