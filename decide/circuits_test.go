package decide_test

import (
	"math/big"
	"slices"
	"testing"

	"marlinspike/api"
	"marlinspike/decide"
	"marlinspike/domain"
	"marlinspike/fr"
	"marlinspike/index"
	"marlinspike/pad"
	"marlinspike/poly"
	"marlinspike/rounds"
)

// Circuits, assignments that satisfy them, and what the layers below make of them.

// entry is one of a number.
func entry(row, col int, val *big.Int) api.Entry {
	return api.Entry{Row: uint32(row), Col: uint32(col), Val: bytesOf(mod(val))}
}

// entries are some: of each the row, the place, and a small number.
func entries(l ...[3]int64) (m []api.Entry) {
	for _, x := range l {
		m = append(m, entry(int(x[0]), int(x[1]), whole(x[2])))
	}
	return m
}

// square is x x = y, of 1, y, x.
func square() api.Circuit {
	x, y := entries([3]int64{0, 2, 1}), entries([3]int64{0, 1, 1})
	return api.Circuit{Rows: 1, Cols: 3, Inputs: 2, A: x, B: slices.Clone(x), C: y}
}

// cube is x x x + x + 5 = y, of 1, y, x, x x, x x x: the last row is x x x + x, times 1,
// that is y - 5.
func cube() api.Circuit {
	return api.Circuit{
		Rows: 3, Cols: 5, Inputs: 2,
		A: entries([3]int64{0, 2, 1}, [3]int64{1, 3, 1}, [3]int64{2, 2, 1}, [3]int64{2, 4, 1}),
		B: entries([3]int64{0, 2, 1}, [3]int64{1, 2, 1}, [3]int64{2, 0, 1}),
		C: entries([3]int64{0, 3, 1}, [3]int64{1, 4, 1}, [3]int64{2, 0, -5}, [3]int64{2, 1, 1}),
	}
}

// sketch is what a circuit is to be like: how many rows, columns, inputs, and entries of
// A, B and C.
type sketch struct{ rows, cols, inputs, a, b, c int }

// sketches are of several sizes; some have no entries in a matrix, or in all, some have
// matrices that are full; of some all variables are inputs, of some one.
func sketches() []sketch {
	return []sketch{
		{1, 1, 1, 0, 0, 0}, {1, 1, 1, 1, 1, 1}, {1, 3, 2, 1, 1, 1}, {1, 5, 5, 3, 2, 5}, {1, 6, 1, 6, 6, 6},
		{5, 1, 1, 5, 0, 2}, {2, 2, 1, 2, 1, 3}, {2, 2, 2, 4, 4, 4}, {3, 4, 4, 0, 5, 6}, {3, 4, 1, 5, 0, 6},
		{3, 4, 2, 5, 6, 0}, {5, 6, 3, 0, 0, 0}, {6, 5, 5, 15, 16, 15}, {7, 9, 3, 12, 11, 9}, {8, 9, 7, 8, 9, 7}, {17, 12, 4, 17, 1, 15},
	}
}

// sorted are so many entries, by rows and then places, none twice.
func (s *numbers) sorted(rows, cols, count int) (m []api.Entry) {
	places := map[int]bool{}
	for len(places) < count {
		places[s.below(rows*cols)] = true
	}
	for place := range rows * cols {
		if places[place] {
			m = append(m, entry(place/cols, place%cols, s.big()))
		}
	}
	return m
}

// rowsOf are the rows' sums of a matrix.
func rowsOf(rows int, m []api.Entry, z []*big.Int) []*big.Int {
	sums := zeros(rows)
	for _, x := range m {
		sums[x.Row] = plus(sums[x.Row], times(new(big.Int).SetBytes(x.Val[:]), z[x.Col]))
	}
	return sums
}

// satisfiable is a circuit of a sketch whose C is such that an assignment satisfies it: in
// each row where it does not, the first entry of C, which is that of 1, makes up for it.
func (s *numbers) satisfiable(x sketch, z []*big.Int) api.Circuit {
	c := api.Circuit{
		Rows: uint32(x.rows), Cols: uint32(x.cols), Inputs: uint32(x.inputs),
		A: s.sorted(x.rows, x.cols, x.a), B: s.sorted(x.rows, x.cols, x.b),
	}
	rest := slices.DeleteFunc(s.sorted(x.rows, x.cols, x.c), func(y api.Entry) bool { return y.Col == 0 })
	left, right, sums := rowsOf(x.rows, c.A, z), rowsOf(x.rows, c.B, z), rowsOf(x.rows, rest, z)
	for i := range x.rows {
		if short := less(times(left[i], right[i]), sums[i]); short.Sign() != 0 {
			c.C = append(c.C, entry(i, 0, short))
		}
		for len(rest) > 0 && int(rest[0].Row) == i {
			c.C, rest = append(c.C, rest[0]), rest[1:]
		}
	}
	return c
}

// laid is a circuit laid on domains, with its index, and an assignment laid so.
type laid struct {
	s  pad.Shape
	x  index.Index
	z  []fr.El
	in []*big.Int
}

func laidOf(t *testing.T, c api.Circuit, z []*big.Int) laid {
	t.Helper()
	s, e := pad.Of(c)
	if e != api.OK {
		t.Fatalf("pad: %v", e)
	}
	x, e := index.Of(s)
	spread, fault := s.Spread(els(z))
	if e != api.OK || fault != api.OK {
		t.Fatalf("index: %v, %v", e, fault)
	}
	return laid{s, x, spread, z[:c.Inputs]}
}

// satisfied is a circuit of a sketch, and an assignment that satisfies it.
func (s *numbers) satisfied(t *testing.T, x sketch) laid {
	t.Helper()
	z := append(wholes(1), s.list(x.cols-1)...)
	return laidOf(t, s.satisfiable(x, z), z)
}

// examples are the document's two, satisfied.
func examples(t *testing.T) []laid {
	t.Helper()
	return []laid{laidOf(t, square(), wholes(1, 9, -3)), laidOf(t, cube(), wholes(1, 35, 3, 9, 27))}
}

// draws are those of its shape.
func (s *numbers) draws(x laid) []*big.Int { return s.list(rounds.Draws(x.s)) }

// manyDraws are draws of several kinds.
func (s *numbers) manyDraws(x laid) (l [][]*big.Int) {
	count := rounds.Draws(x.s)
	for _, k := range wholes(0, 1, -1) {
		l = append(l, slices.Repeat([]*big.Int{k}, count))
	}
	return append(l, s.draws(x), append(zeros(3), s.list(count-3)...), append(s.list(3), zeros(count-3)...))
}

// proved are the rounds' polynomials of something laid, at a and b by e.
type proved struct {
	laid
	a, b *big.Int
	e    [3]*big.Int
	p    rounds.First
	q    rounds.Second
	o    rounds.Third
}

func (x laid) proved(t *testing.T, draws []*big.Int, a, b *big.Int, e [3]*big.Int) proved {
	t.Helper()
	times := [3]fr.El(els(e[:]))
	p, one := rounds.One(x.s, x.z, els(draws))
	q, two := rounds.Two(x.x, p, el(a), times)
	o, three := rounds.Three(x.x, el(a), times, el(b))
	if one != api.OK || two != api.OK || three != api.OK {
		t.Fatalf("%d, %d, %d at %v, %v by %v: %v, %v, %v", x.s.N, x.s.X, x.s.M, a, b, e, one, two, three)
	}
	return proved{x, a, b, e, p, q, o}
}

// at are the polynomials' values, at g those of the index and of the third round.
func (x proved) at(g *big.Int) tale {
	y := tale{z: decide.Sizes{N: x.s.N, X: x.s.X, M: x.s.M}, in: x.in, a: x.a, b: x.b, g: g, e: x.e}
	for i, p := range [][]fr.El{x.p.W, x.p.A, x.p.B, x.p.S, x.q.T, x.q.G, x.q.H} {
		y.l[i] = back(poly.Eval(p, el(x.b)))
	}
	for i, p := range x.inThird() {
		y.l[atRow+i] = back(poly.Eval(*p, el(g)))
	}
	return y
}

// inThird are the polynomials of which the second equation holds, in the order of values.
func (x *proved) inThird() []*[]fr.El {
	var l []*[]fr.El
	for _, all := range []*[3][]fr.El{&x.x.Row, &x.x.Col, &x.x.Val} {
		l = append(l, &all[0], &all[1], &all[2])
	}
	return append(l, &x.o.G, &x.o.H)
}

// scalars are how many the sides of the second equation have, as polynomials of g: the most
// of both.
func (x proved) scalars(t *testing.T) int {
	t.Helper()
	k, e := domain.New(x.s.M)
	if e != api.OK {
		t.Fatal(e)
	}
	a, b, both := poly.Of(el(x.a)), poly.Of(el(x.b)), el(times(v(x.s.N, x.a), v(x.s.N, x.b)))
	var d [3][]fr.El
	for i := range d {
		d[i] = poly.Mul(poly.Sub(a, x.x.Row[i]), poly.Sub(b, x.x.Col[i]))
	}
	var left []fr.El
	for i, val := range x.x.Val {
		upper := poly.Scale(val, both.Mul(el(x.e[i])))
		left = poly.Add(left, poly.Mul(upper, poly.Mul(d[(i+1)%3], d[(i+2)%3])))
	}
	f, _ := poly.Shift(x.o.G, 1)
	part := el(per(back(poly.Eval(x.q.T, el(x.b))), whole(int64(x.s.M))))
	f = poly.Add(f, poly.Of(part))
	left = poly.Sub(left, poly.Mul(f, poly.Mul(d[0], poly.Mul(d[1], d[2]))))
	return max(len(left), len(k.MulV(x.o.H)))
}
