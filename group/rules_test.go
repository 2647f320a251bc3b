package group_test

import (
	"slices"
	"sync"
	"testing"

	"marlinspike/api"
	"marlinspike/curve"
	"marlinspike/fq"
	"marlinspike/fq2"
	"marlinspike/fr"
	"marlinspike/group"
)

// R1 to R6 for this layer's calls.

func TestNothingPanics(t *testing.T) { both(t, func(w checks) { w.nothing(t) }) }

func TestAnswersHangOnArgumentsAlone(t *testing.T) { both(t, func(w checks) { w.again(t) }) }

// nothing asks of points that no call told: each ends, and none panics.
func (w *world[E]) nothing(t *testing.T) {
	l := []E{w.b, w.b.Neg(), w.b.Sub(w.b), w.at(2)}
	for i, x := range l {
		for j, y := range l {
			p := curve.Point[E]{X: x, Y: y, Z: l[(i+j)%len(l)]}
			w.in(p)
			w.mul(p, fr.Of(int64(i-j)))
			w.mul(p, fr.El{})
		}
	}
}

func TestSumOfAnything(t *testing.T) {
	l := []fq.El{fq.Of(0), fq.Of(1), fq.Of(-1), fq.Of(7)}
	var ps []group.G1
	var ks []fr.El
	for i, x := range l {
		for j, y := range l {
			ps, ks = append(ps, group.G1{X: x, Y: y, Z: l[(i+2*j)%len(l)]}), append(ks, fr.Of(int64(i*j-3)))
			group.Sum1(ps, ks)
			group.Sum1(ps, ks[1:])
		}
	}
}

// again asks the same several times, with other calls between.
func (w *world[E]) again(t *testing.T) {
	far, gen := curve.Point[E]{}, w.gen()
	p := w.value(t, w.found(1)[0])
	multiple := w.mul(gen, fr.Of(-9))
	for n := range int64(3) {
		if w.gen() != gen || w.mul(gen, fr.Of(-9)) != multiple || !w.in(gen) || w.in(p) || !w.in(far) {
			t.Errorf("%s: something was answered otherwise", w.name)
		}
		own := w.c()
		*own = curve.Curve[E]{} // a curve that is told is the caller's
		if w.in(p) || !w.in(multiple) || w.mul(p, fr.Of(n)) != w.c().Mul(p, []uint64{uint64(n)}) {
			t.Errorf("%s: a curve that was overwritten shows", w.name)
		}
	}
	w.want(t, "the generator", gen, w.told(w.gen()))
	if w.c() == w.c() {
		t.Errorf("%s: a curve is told twice", w.name)
	}
}

// Lists stay as they are, with the room behind their ends, and what is written
// there afterwards shows in no answer.
func TestArgumentsAreNotChangedAndNotKept(t *testing.T) {
	w := one(t)
	g, p := group.Gen1(), w.value(t, pair[fq.El]{fq.Of(2), fq.Of(3), true})
	ps := append([]group.G1{g, p}, p, g)[:2]
	ks := append([]fr.El{fr.Of(5), fr.Of(-3)}, fr.Of(77), fr.Of(78))[:2]
	sum, e := group.Sum1(ps, ks)
	_, refused := group.Sum1(ps[:1], ks)
	_, again := group.Sum1(ps, ks[:1])
	if e != api.OK || refused != api.ErrArg || again != api.ErrArg {
		t.Errorf("%v, %v, %v", e, refused, again)
	}
	if !slices.Equal(ps[:4], []group.G1{g, p, p, g}) || !slices.Equal(ks[:4], []fr.El{fr.Of(5), fr.Of(-3), fr.Of(77), fr.Of(78)}) {
		t.Error("a list was changed")
	}
	clear(ps[:4])
	clear(ks[:4])
	c := group.Curve1()
	want := c.Add(c.Mul(g, []uint64{5}), c.Mul(p, []uint64{4})) // r - 3 by 6 is 4
	w.wantSame(t, "Sum1", sum, want)
	sum, e = group.Sum1([]group.G1{g, p}, []fr.El{fr.Of(5), fr.Of(-3)})
	if e != api.OK {
		t.Error(e)
	}
	w.wantSame(t, "Sum1, again", sum, want)
}

// The calls may be asked by many at once, and tell them the same.
func TestManyAtOnce(t *testing.T) {
	g, h := group.Gen1(), group.Gen2()
	five, six := group.Mul1(g, fr.Of(5)), group.Mul2(h, fr.Of(6))
	var all sync.WaitGroup
	for n := range int64(8) {
		all.Go(func() {
			c, d := group.Curve1(), group.Curve2()
			sum, e := group.Sum1([]group.G1{g, five}, []fr.El{fr.Of(n), fr.Of(-n)})
			if e != api.OK || !c.Same(sum, group.Mul1(g, fr.Of(-4*n))) || group.Gen1() != g || !group.In1(sum) {
				t.Errorf("G1, %d: %v", n, e)
			}
			if !d.Same(group.Mul2(six, fr.Of(n)), group.Mul2(h, fr.Of(6*n))) || group.Gen2() != h || !group.In2(six) || d.On(fq2.Of(n, 0), fq2.Of(n, 0)) {
				t.Errorf("G2, %d", n)
			}
		})
	}
	all.Wait()
}
