package points_test

import (
	"bytes"
	"slices"
	"testing"

	"marlinspike/api"
	"marlinspike/curve"
	"marlinspike/fr"
)

// P10.3

func TestPointsAreTheirBytes(t *testing.T) { both(t, func(w checks) { w.turns(t) }) }

func TestOtherBitsAreOtherPoints(t *testing.T) { both(t, func(w checks) { w.bits(t) }) }

func TestOtherBytesAreOtherPoints(t *testing.T) { both(t, func(w checks) { w.lastBytes(t) }) }

func TestNoOtherBytesAreRead(t *testing.T) { both(t, func(w checks) { w.texts(t) }) }

func TestUnlikePointsHaveUnlikeBytes(t *testing.T) { both(t, func(w checks) { w.unlike(t) }) }

// turns goes there and back, by several values of each point.
func (w *world[E]) turns(t *testing.T) {
	s := numbers{state: 11}
	l := []fr.El{fr.Of(0), fr.Of(1), fr.Of(2), fr.Of(-1), fr.Of(77), s.scalar(), s.scalar()}
	for _, k := range l {
		p := w.mul(w.gen, k)
		for _, v := range w.several(t, p) {
			b := w.put(v)
			got, e := w.get(b)
			if e != api.OK || !w.c.Same(got, p) || !bytes.Equal(w.put(got), b) || !bytes.Equal(b, w.put(p)) {
				t.Errorf("%s: %v times the generator, by %x: %v", w.name, k.Nat(), b, e)
			}
		}
	}
}

// other fails if other bytes than a point's are read as that point.
func (w *world[E]) other(t *testing.T, p curve.Point[E], b []byte) api.Errno {
	t.Helper()
	e := w.ask(t, b)
	if e != api.OK {
		return e
	}
	if got, _ := w.get(b); w.c.Same(got, p) {
		t.Errorf("%s: %x and %x are one point", w.name, b, w.put(p))
	}
	return e
}

// bits turns each bit of a point's bytes over.
func (w *world[E]) bits(t *testing.T) {
	p := w.mul(w.gen, fr.Of(3))
	seen := map[api.Errno]int{}
	for i := range w.far() {
		for bit := range 8 {
			b := w.put(p)
			b[i] ^= 1 << bit
			seen[w.other(t, p, b)]++
		}
	}
	if seen[api.OK] != 1 || seen[api.ErrForm] != 1 || seen[api.ErrField] < 5 || seen[api.ErrCurve] < 100 || seen[api.ErrGroup] < 100 {
		t.Errorf("%s: %v", w.name, seen) // one bit makes the negative, one the far one's form
	}
}

// lastBytes puts each other byte in the place of some.
func (w *world[E]) lastBytes(t *testing.T) {
	for _, p := range []curve.Point[E]{w.gen, w.mul(w.gen, fr.Of(2))} {
		for part := range w.parts {
			for i := range 256 {
				for _, place := range []int{48 * part, 48*part + 47} {
					b := w.put(p)
					if place%48 == 47 && i%6 > 0 || b[place] == byte(i) {
						continue
					}
					b[place] = byte(i)
					w.other(t, p, b)
				}
			}
		}
	}
	for i := range 256 {
		if b := w.far(); i != 128 {
			b[0] = byte(i)
			w.other(t, curve.Point[E]{}, b)
		}
	}
}

// texts asks of bytes that are laid by no point: what is read has just them.
func (w *world[E]) texts(t *testing.T) {
	s := numbers{state: 21}
	for i := range 120 {
		b := s.fill(48 * w.parts)
		if i%4 > 0 {
			b[0] &= 65
			if w.parts == 2 {
				b[48] &= 1
			}
		}
		w.ask(t, b)
	}
	for n := int64(-20); n < 20; n++ {
		w.ask(t, w.lay(w.at(n)))
		w.ask(t, with(w.lay(w.at(n)), 64))
	}
}

func (w *world[E]) unlike(t *testing.T) {
	var p curve.Point[E]
	told := map[string]bool{}
	for range 40 {
		for _, v := range []curve.Point[E]{p, w.c.Neg(p)} {
			told[string(w.put(v))] = true
		}
		p = w.c.Add(p, w.gen)
	}
	if len(told) != 79 {
		t.Errorf("%s: 79 points have %d texts", w.name, len(told))
	}
	g := w.put(w.gen)
	turned := slices.Clone(g)
	turned[0] ^= 64
	if p, e := w.get(turned); e != api.OK || !w.c.Same(p, w.c.Neg(w.gen)) || !bytes.Equal(w.put(w.c.Neg(w.gen)), turned) {
		t.Errorf("%s: the generator's negative: %v", w.name, e)
	}
}
