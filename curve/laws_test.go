package curve_test

import (
	"fmt"
	"math/big"
	"slices"
	"testing"

	"marlinspike/api"
	"marlinspike/curve"
	"marlinspike/fq"
)

// P8.4

func TestPointsAreAGroup(t *testing.T) { every(t, func(w checks) { w.group(t) }) }

func TestSumsInEveryOrder(t *testing.T) { every(t, func(w checks) { w.orders(t) }) }

func TestMulGoesOutOverSums(t *testing.T) { every(t, func(w checks) { w.distributes(t) }) }

func TestSumsGoTogether(t *testing.T) { every(t, func(w checks) { w.splits(t) }) }

// Every three points, put together both ways; every two of them, turned.
func (w *world[E]) group(t *testing.T) {
	var l []curve.Point[E]
	for i, p := range w.points {
		l = append(l, w.some(t, p, i))
	}
	for i, p := range l {
		for j, q := range l {
			sum := w.c.Add(p, q)
			if !w.c.Same(sum, w.c.Add(q, p)) || !w.c.Same(w.c.Neg(sum), w.c.Add(w.c.Neg(p), w.c.Neg(q))) || !w.c.Same(w.c.Add(sum, w.c.Neg(q)), p) {
				t.Errorf("%s: %v and %v", w.name, w.points[i], w.points[j])
			}
			if w.all && !slices.Contains(w.points, w.told(sum)) {
				t.Errorf("%s: %v and %v together are no point", w.name, w.points[i], w.points[j])
			}
			for n, r := range l {
				if !w.c.Same(w.c.Add(sum, r), w.c.Add(p, w.c.Add(q, r))) {
					t.Errorf("%s: %v, %v, %v", w.name, w.points[i], w.points[j], w.points[n])
				}
			}
		}
		if w.all && !w.c.Same(w.c.Mul(p, []uint64{uint64(len(l))}), curve.Point[E]{}) {
			t.Errorf("%s: %v, so often as there are points, is not the far one", w.name, w.points[i])
		}
	}
}

// orders puts four points, taken in every order, together in each of the five
// ways.
func (w *world[E]) orders(t *testing.T) {
	add := w.c.Add
	for i := range len(w.points) {
		var own pair[E]
		var four [4]curve.Point[E]
		for n := range four {
			p := w.points[(i*(n+1)+n*n)%len(w.points)]
			four[n], own = w.some(t, p, n+i), own.add(p)
		}
		for a := range 24 {
			l := ordered(four, a)
			all := []curve.Point[E]{
				add(add(add(l[0], l[1]), l[2]), l[3]), add(add(l[0], add(l[1], l[2])), l[3]), add(add(l[0], l[1]), add(l[2], l[3])),
				add(l[0], add(add(l[1], l[2]), l[3])), add(l[0], add(l[1], add(l[2], l[3]))),
			}
			sum, e := w.c.Sum(l[:], [][]uint64{{1}, {1}, {1, 0}, {1}})
			for _, got := range append(all, sum) {
				if e != api.OK || w.told(got) != own {
					t.Errorf("%s: four points in the order %d are %v, not %v", w.name, a, w.told(got), own)
				}
			}
		}
	}
}

// ordered is the list in the n-th of its 24 orders.
func ordered[E any](l [4]E, n int) [4]E {
	for i := 3; i > 0; i-- {
		j := n % (i + 1)
		l[i], l[j] = l[j], l[i]
		n /= i + 1
	}
	return l
}

func (w *world[E]) distributes(t *testing.T) {
	ks := [][]uint64{nil, {1}, {2}, {1<<64 - 1}, {0, 1}, {5, 6, 0}}
	for i, p := range w.points {
		q := w.points[(7*i+3)%len(w.points)]
		v, u := w.some(t, p, i), w.some(t, q, i+1)
		for j, k := range ks {
			if !w.all && (i+j)%3 > 0 {
				continue // with great numbers it takes long
			}
			if !w.c.Same(w.c.Mul(w.c.Add(v, u), k), w.c.Add(w.c.Mul(v, k), w.c.Mul(u, k))) {
				t.Errorf("%s: %v and %v, %x times", w.name, p, q, k)
			}
			if !w.c.Same(w.c.Mul(w.c.Neg(v), k), w.c.Neg(w.c.Mul(v, k))) {
				t.Errorf("%s: Neg of %v, %x times", w.name, p, k)
			}
			other := ks[(j+i)%len(ks)]
			sum, product := new(big.Int).Add(bigOf(k), bigOf(other)), new(big.Int).Mul(bigOf(k), bigOf(other))
			if !w.c.Same(w.c.Mul(v, fromBig(sum)), w.c.Add(w.c.Mul(v, k), w.c.Mul(v, other))) {
				t.Errorf("%s: %v, %x and %x times", w.name, p, k, other)
			}
			if !w.c.Same(w.c.Mul(v, fromBig(product)), w.c.Mul(w.c.Mul(v, k), other)) {
				t.Errorf("%s: %v, %x times %x times", w.name, p, k, other)
			}
		}
	}
}

// splits tells sums as one, turned, in two pieces, and of multiples.
func (w *world[E]) splits(t *testing.T) {
	s := numbers{state: 6}
	for _, size := range []int{2, 5, 17, 33} {
		if !w.all && size > 17 {
			break
		}
		var ps, multiples []curve.Point[E]
		var ks, ones [][]uint64
		for i := range size {
			ps, ks, ones = append(ps, w.some(t, w.points[s.below(len(w.points))], i)), append(ks, s.list(2)), append(ones, []uint64{1})
			multiples = append(multiples, w.c.Mul(ps[i], ks[i]))
		}
		all, e := w.c.Sum(ps, ks)
		left, again := w.c.Sum(ps[:size/2], ks[:size/2])
		right, more := w.c.Sum(ps[size/2:], ks[size/2:])
		each, last := w.c.Sum(multiples, ones)
		slices.Reverse(ps)
		slices.Reverse(ks)
		turned, end := w.c.Sum(ps, ks)
		if e != api.OK || again != api.OK || more != api.OK || last != api.OK || end != api.OK {
			t.Errorf("%s: %v, %v, %v, %v, %v", w.name, e, again, more, last, end)
		}
		for i, got := range []curve.Point[E]{w.c.Add(left, right), each, turned} {
			w.want(t, fmt.Sprint("Sum of ", size, ", told otherwise, ", i), got, w.told(all))
		}
	}
}

// A point to which others were put, and taken away again, goes on as the point
// that it was.
func TestManyValuesOfOnePoint(t *testing.T) {
	w := coordinates(t)
	p := w.points[14]
	v := w.value(t, p)
	for k := range uint64(30) {
		far := w.c.Mul(w.value(t, w.points[15]), []uint64{k, k})
		other := w.c.Add(w.c.Add(v, far), w.c.Neg(far))
		w.want(t, "a point, and back again", other, p)
		w.want(t, "twice that", w.c.Add(other, v), p.add(p))
		w.want(t, "and its negative", w.c.Add(w.c.Neg(v), other), pair[fq.El]{})
		w.want(t, "three times that", w.c.Mul(other, []uint64{3}), p.add(p).add(p))
	}
}
