package curve_test

import (
	"math/big"
	"strconv"
	"testing"

	"marlinspike/api"
	"marlinspike/curve"
	"marlinspike/fq"
	"marlinspike/fq12"
	"marlinspike/fq2"
	"marlinspike/fq6"
	"marlinspike/fr"
)

// pair is a point by the document's own words: x and y, or else, where is is
// false and both are 0, the far one.
type pair[E curve.Elem[E]] struct {
	x, y E
	is   bool
}

func (p pair[E]) neg() pair[E] {
	if !p.is {
		return p
	}
	return pair[E]{p.x, p.y.Neg(), true}
}

func (p pair[E]) add(q pair[E]) pair[E] {
	switch {
	case !p.is:
		return q
	case !q.is:
		return p
	case q == p.neg():
		return pair[E]{}
	}
	up, across := q.y.Sub(p.y), q.x.Sub(p.x)
	if p == q {
		square := p.x.Mul(p.x)
		up, across = square.Add(square).Add(square), p.y.Add(p.y)
	}
	inverse, _ := across.Inv()
	l := up.Mul(inverse)
	x := l.Mul(l).Sub(p.x).Sub(q.x)
	return pair[E]{x, l.Mul(p.x.Sub(x)).Sub(p.y), true}
}

func (p pair[E]) mul(k []uint64) (sum pair[E]) {
	b := bigOf(k)
	for i := b.BitLen() - 1; i >= 0; i-- {
		sum = sum.add(sum)
		if b.Bit(i) == 1 {
			sum = sum.add(p)
		}
	}
	return sum
}

// world is a curve and some of its points, or all: the far one is the first.
type world[E curve.Elem[E]] struct {
	name   string
	c      *curve.Curve[E]
	one, b E
	points []pair[E]
	all    bool
	found  map[pair[E]][]curve.Point[E] // what values told
}

// checks are what is asked of every world.
type checks interface {
	places(*testing.T)
	same(*testing.T)
	adds(*testing.T)
	negatives(*testing.T)
	multiples(*testing.T)
	sums(*testing.T)
	group(*testing.T)
	orders(*testing.T)
	distributes(*testing.T)
	splits(*testing.T)
}

func newWorld[E curve.Elem[E]](name string, one, b E) *world[E] {
	return &world[E]{name: name, c: curve.New(one, b), one: one, b: b, points: make([]pair[E], 1), found: map[pair[E]][]curve.Point[E]{}}
}

// with puts points and their negatives to those that are there, each once.
func (w *world[E]) with(l ...pair[E]) *world[E] {
	for _, p := range l {
		w.points = append(w.points, p)
		if p != p.neg() {
			w.points = append(w.points, p.neg())
		}
	}
	return w
}

// value is the first value of a point: what Of tells.
func (w *world[E]) value(t *testing.T, p pair[E]) curve.Point[E] {
	t.Helper()
	if !p.is {
		return curve.Point[E]{}
	}
	v, e := w.c.Of(p.x, p.y)
	if e != api.OK {
		t.Fatalf("%s: Of(%v): %v", w.name, p, e)
	}
	return v
}

// values are several values of one point: its own, and what sums come to it.
func (w *world[E]) values(t *testing.T, p pair[E]) []curve.Point[E] {
	t.Helper()
	if l, ok := w.found[p]; ok {
		return l
	}
	own := w.value(t, p)
	l := []curve.Point[E]{own, w.c.Neg(w.c.Neg(own)), w.c.Mul(own, []uint64{1})}
	for i := range 3 {
		other := w.value(t, w.points[(5*i+1)%len(w.points)])
		l = append(l, w.c.Add(w.c.Add(own, other), w.c.Neg(other)))
	}
	twice := w.c.Add(own, own)
	w.found[p] = append(l, w.c.Add(w.c.Add(twice, own), w.c.Neg(twice)))
	return w.found[p]
}

// some is one of a point's values, another one for each turn.
func (w *world[E]) some(t *testing.T, p pair[E], turn int) curve.Point[E] {
	l := w.values(t, p)
	return l[turn%len(l)]
}

// told is what Affine tells, the zeros beside a false among it.
func (w *world[E]) told(p curve.Point[E]) pair[E] {
	x, y, is := w.c.Affine(p)
	return pair[E]{x, y, is}
}

// want fails if a value isn't the point p.
func (w *world[E]) want(t *testing.T, call string, got curve.Point[E], p pair[E]) {
	t.Helper()
	own := w.value(t, p)
	if w.told(got) != p || !w.c.Same(got, own) || !w.c.Same(own, got) {
		t.Errorf("%s: %s is %v, not %v", w.name, call, w.told(got), p)
	}
	if w.c.Same(got, curve.Point[E]{}) == p.is || p.is && !w.c.On(w.told(got).x, w.told(got).y) {
		t.Errorf("%s: %s, that is %v, is far, or lies on no curve", w.name, call, p)
	}
}

// littleWorlds are all curves by a small prime number, with all of their points.
func littleWorlds[P prime]() (l []checks) {
	m := modulus[P]()
	for b := 1; b < m; b++ {
		w := newWorld("b "+strconv.Itoa(b)+" by "+strconv.Itoa(m), by[P](1), by[P](b))
		for x := range m {
			for y := range m {
				if (y*y-x*x*x-b)%m == 0 {
					w.points = append(w.points, pair[little[P]]{by[P](x), by[P](y), true})
				}
			}
		}
		w.all = true
		l = append(l, w)
	}
	return l
}

// coordinates is G1's curve: points of every order from 1 to 6, and others.
func coordinates(t *testing.T) *world[fq.El] {
	t.Helper()
	w := newWorld("coordinates", fq.Of(1), fq.Of(1))
	third := new(big.Int).Sub(bigOf(fq.Modulus()), big.NewInt(1))
	third.Div(third, big.NewInt(3))
	root := fq.Of(1) // of the third power 1
	for n := int64(2); root == fq.Of(1); n++ {
		root = fq.Of(n).Pow(fromBig(third))
	}
	w.with(pair[fq.El]{fq.Of(2), fq.Of(3), true}, pair[fq.El]{fq.Of(0), fq.Of(1), true})
	for _, x := range []fq.El{fq.Of(1), root, root.Mul(root)} {
		w.with(pair[fq.El]{x: x.Neg(), is: true})
	}
	w.with(pair[fq.El]{fq.Of(2).Mul(root), fq.Of(3), true})
	for n := int64(3); len(w.points) < 16; n++ {
		x := fq.Of(n)
		if y, e := x.Mul(x).Mul(x).Add(fq.Of(1)).Sqrt(); e == api.OK {
			w.with(pair[fq.El]{x, y, true})
		}
	}
	return w
}

// pairs is a curve over pairs: its first points, by their x.
func pairs(t *testing.T, name string, b fq2.El) *world[fq2.El] {
	t.Helper()
	w := newWorld(name, fq2.Of(1, 0), b)
	for n := int64(-1); len(w.points) < 9; n++ {
		for _, x := range []fq2.El{fq2.Of(n, 0), fq2.Of(n, 1)} {
			y, e := x.Mul(x).Mul(x).Add(b).Sqrt()
			if e == api.OK {
				w.with(pair[fq2.El]{x, y, true})
			}
		}
	}
	return w
}

// through is the curve on which x, y lies, and some multiples of that point.
func through[E curve.Elem[E]](name string, one, x, y E) *world[E] {
	w := newWorld(name, one, y.Mul(y).Sub(x.Mul(x).Mul(x)))
	p := pair[E]{x, y, true}
	return w.with(p, p.add(p), p.add(p).add(p))
}

// greatWorlds are curves over each of the document's fields.
func greatWorlds(t *testing.T) []checks {
	t.Helper()
	perU, _ := fq2.Of(0, 1).Inv()
	return []checks{
		coordinates(t),
		pairs(t, "pairs", perU),
		pairs(t, "pairs, b is 1", fq2.Of(1, 0)),
		through("pairs, through (1 + 2 u, 3 - u)", fq2.Of(1, 0), fq2.Of(1, 2), fq2.Of(3, -1)),
		through("scalars", fr.Of(1), fr.Of(-7), fr.Of(1<<60)),
		through("triples", fq6.Of(1), fq6.El{A: fq2.Of(2, 3), B: fq2.Of(0, 1)}, fq6.El{B: fq2.Of(5, -1), C: fq2.Of(1, 1)}),
		through("twelve parts", fq12.Of(1), fq12.El{B: fq6.Of(3).Add(fq6.Of(1).MulV())}, fq12.El{A: fq6.Of(1).MulV(), B: fq6.Of(-2)}),
	}
}

// worlds are all of them.
func worlds(t *testing.T) []checks {
	t.Helper()
	var l []checks
	l = append(l, littleWorlds[five]()...)
	l = append(l, littleWorlds[seven]()...)
	l = append(l, littleWorlds[eleven]()...)
	l = append(l, littleWorlds[thirteen]()...)
	l = append(l, littleWorlds[nineteen]()...)
	return append(l, greatWorlds(t)...)
}
