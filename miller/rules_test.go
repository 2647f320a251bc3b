package miller_test

import (
	"slices"
	"sync"
	"testing"

	"marlinspike/fq"
	"marlinspike/fq12"
	"marlinspike/fq2"
	"marlinspike/fr"
	"marlinspike/group"
	"marlinspike/miller"
)

// R1 to R4 for this layer's calls.

// Points that no call told: each call ends, and none panics. Some of these have
// slopes whose divisor is 0, and sums that are the far one.
func TestNothingPanics(t *testing.T) {
	ns := []fq.El{fq.Of(0), fq.Of(1), fq.Of(-1), fq.Of(7)}
	ms := []fq2.El{fq2.Of(0, 0), fq2.Of(1, 0), fq2.Of(0, 1), fq2.Of(-1, 7)}
	g, h := group.Gen1(), group.Gen2()
	for i := range 64 {
		p := group.G1{X: ns[i%4], Y: ns[i/4%4], Z: ns[i/16]}
		q := group.G2{X: ms[i%4], Y: ms[i/4%4], Z: ms[i/16]}
		f := miller.Miller(p, q)
		if again := miller.Miller(p, q); again != f {
			t.Errorf("%d: asked again, it is %s", i, digits(again))
		}
		miller.Miller(p, h)
		miller.Miller(g, q)
		if x, y, is := miller.Over(q); is == (i/16 == 0) || !is && (!x.IsZero() || !y.IsZero()) {
			t.Errorf("%d: Over: %s, %s, %v", i, digits(x), digits(y), is)
		}
	}
}

// Asked several times, with other calls between, the same is answered.
func TestAnswersHangOnArgumentsAlone(t *testing.T) {
	g, h := group.Gen1(), group.Gen2()
	ps := []group.G1{g, group.Mul1(g, fr.Of(-9)), point1(t, 2, 3), {}, point1(t, -1, 0)}
	qs := []group.G2{h, {}, group.Mul2(h, fr.Of(8)), outside2(t)[0]}
	var before []fq12.El
	var pairs []pair
	for _, q := range qs {
		pairs = append(pairs, told(q))
		for _, p := range ps {
			before = append(before, miller.Miller(p, q))
		}
	}
	for range 2 {
		for j, q := range slices.Backward(qs) {
			for i, p := range slices.Backward(ps) {
				if f := miller.Miller(p, q); f != before[j*len(ps)+i] {
					t.Errorf("%d, %d: asked again, it is %s", i, j, digits(f))
				}
				if told(q) != pairs[j] {
					t.Errorf("%d: asked again, it goes over into %v", j, told(q))
				}
			}
		}
	}
}

// What is handed in, also by a list that holds it, is as it was.
func TestArgumentsStay(t *testing.T) {
	ps := []group.G1{group.Mul1(group.Gen1(), fr.Of(6)), {}, point1(t, 2, 3)}
	qs := []group.G2{group.Mul2(group.Gen2(), fr.Of(-4)), {}, outside2(t)[2]}
	samePs, sameQs := slices.Clone(ps), slices.Clone(qs)
	for i := range ps {
		for j := range qs {
			f := miller.Miller(ps[i], qs[j])
			x, y, _ := miller.Over(qs[j])
			was := f
			f.A, x.A, y.B = x.B, y.A, f.A
			if miller.Miller(ps[i], qs[j]) != was {
				t.Errorf("%d, %d: what was written in an answer shows", i, j)
			}
		}
		if told(qs[i]) != over(sameQs[i]) {
			t.Errorf("%d: what was written in an answer of Over shows", i)
		}
	}
	if !slices.Equal(ps, samePs) || !slices.Equal(qs, sameQs) {
		t.Errorf("%v, %v: they were %v, %v", ps, qs, samePs, sameQs)
	}
}

// The calls may be asked by many at once, and tell them the same.
func TestManyAtOnce(t *testing.T) {
	g, h := group.Gen1(), group.Gen2()
	var all sync.WaitGroup
	for n := range int64(8) {
		p, q := group.Mul1(g, fr.Of(n)), group.Mul2(h, fr.Of(3*n-1))
		f := miller.Miller(p, q)
		all.Go(func() {
			for range 3 {
				if got := miller.Miller(p, q); got != f || told(q) != over(q) {
					t.Errorf("%d: %s, not %s", n, digits(got), digits(f))
				}
			}
		})
	}
	all.Wait()
}
