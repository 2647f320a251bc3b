package points_test

import (
	"bytes"
	"slices"
	"sync"
	"testing"

	"marlinspike/api"
	"marlinspike/curve"
	"marlinspike/fr"
	"marlinspike/group"
	"marlinspike/points"
)

// R1 to R4 for this layer's calls.

func TestNothingPanics(t *testing.T) { both(t, func(w checks) { w.anything(t) }) }

func TestAnswersHangOnArgumentsAlone(t *testing.T) { both(t, func(w checks) { w.again(t) }) }

func TestArgumentsAreNotChangedAndNotKept(t *testing.T) { both(t, func(w checks) { w.stays(t) }) }

// anything asks of points that no call told, and of any bytes.
func (w *world[E]) anything(t *testing.T) {
	l := []E{w.elem(small(0, 0)), w.elem(small(1, 0)), w.elem(small(-1, 0)), w.elem(w.at(7))}
	for i, x := range l {
		for j, y := range l {
			for _, z := range l {
				w.put(curve.Point[E]{X: x, Y: y, Z: z})
			}
			w.put(curve.Point[E]{X: x, Y: y, Z: l[(i+j)%len(l)]})
		}
	}
	for fill := range 256 {
		w.get(bytes.Repeat([]byte{byte(fill)}, 48*w.parts))
	}
	for i := range w.far() {
		b := make([]byte, 48*w.parts)
		b[i] = 1
		w.ask(t, b)
	}
}

// again asks the same several times, with other calls between.
func (w *world[E]) again(t *testing.T) {
	out, none := w.found(1)
	p := w.mul(w.gen, fr.Of(-9))
	texts := [][]byte{
		w.put(p), w.far(), w.lay(out[0].x), w.lay(none[0]), w.lay(num{q(), out[0].x.b}),
		with(w.far(), 64), with(w.put(p), 128), w.put(w.gen), w.put(w.c.Neg(p)),
	}
	type answer struct {
		p curve.Point[E]
		e api.Errno
	}
	var before []answer
	for _, b := range texts {
		p, e := w.get(b)
		before = append(before, answer{p, e})
	}
	for range 2 {
		for i, b := range slices.Backward(texts) {
			if got, e := w.get(b); (answer{got, e}) != before[i] {
				t.Errorf("%s: %x was answered otherwise: %v", w.name, b, e)
			}
			if !bytes.Equal(w.put(p), texts[0]) || !bytes.Equal(w.put(curve.Point[E]{}), w.far()) {
				t.Errorf("%s: after %x a point has other bytes", w.name, b)
			}
		}
	}
}

// stays: bytes and points are as they were, and what is written in answers
// shows in no other one.
func (w *world[E]) stays(t *testing.T) {
	p := w.mul(w.gen, fr.Of(6))
	same := p
	b := w.put(p)
	was := slices.Clone(b)
	for _, first := range []byte{0, 64, 128} {
		l := with(b, first)
		text := slices.Clone(l)
		w.get(l)
		if !bytes.Equal(l, text) {
			t.Errorf("%s: %x became %x", w.name, text, l)
		}
	}
	got, e := w.get(b)
	clear(b)
	if e != api.OK || p != same || !bytes.Equal(w.put(p), was) || !bytes.Equal(w.put(got), was) || !w.c.Same(got, p) {
		t.Errorf("%s: %x: %v", w.name, was, e)
	}
	far := w.put(curve.Point[E]{})
	far[0] = 1
	if !bytes.Equal(w.put(curve.Point[E]{}), w.far()) {
		t.Errorf("%s: what was written in the far one's bytes shows", w.name)
	}
}

// Bytes are handed in as values: 64 stays in the caller's own.
func TestArraysStay(t *testing.T) {
	p, h := group.Mul1(group.Gen1(), fr.Of(5)), group.Mul2(group.Gen2(), fr.Of(2))
	b1, b2 := points.Put1(p), points.Put2(h)
	if b1[0]&64 == 0 || b2[0]&64 == 0 {
		t.Fatal("one of both is not great")
	}
	same1, same2 := b1, b2
	_, e1 := points.Get1(b1)
	_, e2 := points.Get2(b2)
	if e1 != api.OK || e2 != api.OK || b1 != same1 || b2 != same2 {
		t.Errorf("%v, %v", e1, e2)
	}
}

// The calls may be asked by many at once, and tell them the same.
func TestManyAtOnce(t *testing.T) {
	g, h := group.Gen1(), group.Gen2()
	var all sync.WaitGroup
	for n := range int64(8) {
		all.Go(func() {
			p, o := group.Mul1(g, fr.Of(n)), group.Mul2(h, fr.Of(n))
			for range 5 {
				p1, e1 := points.Get1(points.Put1(p))
				p2, e2 := points.Get2(points.Put2(o))
				_, none := points.Get1([48]byte{47: byte(2 * n % 4)})
				if e1 != api.OK || e2 != api.OK || none != api.ErrGroup || !group.Curve1().Same(p1, p) || !group.Curve2().Same(p2, o) {
					t.Errorf("%d: %v, %v, %v", n, e1, e2, none)
				}
			}
		})
	}
	all.Wait()
}
