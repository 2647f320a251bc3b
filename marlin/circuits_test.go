package marlin_test

import (
	"math/big"
	"slices"
	"testing"

	"marlinspike/api"
	"marlinspike/index"
	"marlinspike/keys"
	"marlinspike/pad"
	"marlinspike/srs"
)

// Circuits, assignments that satisfy them, and what the layers below make of them.

// entry is one of a number.
func entry(row, col int, val *big.Int) api.Entry {
	return api.Entry{Row: uint32(row), Col: uint32(col), Val: bytesOf(mod(val))}
}

// entries are some: of each the row, the place, and a small number.
func entries(l ...[3]int64) (m []api.Entry) {
	for _, x := range l {
		m = append(m, entry(int(x[0]), int(x[1]), whole(x[2])))
	}
	return m
}

// square is x x = y, of 1, y, x: y 9, x 3.
func square() task {
	x, y := entries([3]int64{0, 2, 1}), entries([3]int64{0, 1, 1})
	return task{api.Circuit{Rows: 1, Cols: 3, Inputs: 2, A: x, B: slices.Clone(x), C: y}, wholes(1, 9, 3)}
}

// cube is x x x + x + 5 = y, of 1, y, x, x x, x x x: the last row is x x x + x, times 1,
// that is y - 5; x is 3.
func cube() task {
	return task{api.Circuit{
		Rows: 3, Cols: 5, Inputs: 2,
		A: entries([3]int64{0, 2, 1}, [3]int64{1, 3, 1}, [3]int64{2, 2, 1}, [3]int64{2, 4, 1}),
		B: entries([3]int64{0, 2, 1}, [3]int64{1, 2, 1}, [3]int64{2, 0, 1}),
		C: entries([3]int64{0, 3, 1}, [3]int64{1, 4, 1}, [3]int64{2, 0, -5}, [3]int64{2, 1, 1}),
	}, wholes(1, 35, 3, 9, 27)}
}

// clone is the same task, of lists of its own.
func (x task) clone() task {
	x.c.A, x.c.B, x.c.C, x.z = slices.Clone(x.c.A), slices.Clone(x.c.B), slices.Clone(x.c.C), slices.Clone(x.z)
	return x
}

// matrices are where a circuit has its own.
func matrices(c *api.Circuit) [3]*[]api.Entry { return [3]*[]api.Entry{&c.A, &c.B, &c.C} }

// sketch is what a circuit is to be like: how many rows, columns, inputs, and entries of
// A, B and C.
type sketch struct{ rows, cols, inputs, a, b, c int }

// sketches are of several sizes; some have no entries in a matrix, or in all, some have
// matrices that are full; of some all variables are inputs, of some one; of some the need
// is 2 N.
func sketches() []sketch {
	return []sketch{
		{1, 1, 1, 0, 0, 0}, {1, 1, 1, 1, 1, 1}, {1, 1, 1, 0, 1, 0}, {1, 3, 2, 1, 1, 1}, {1, 5, 5, 3, 2, 5}, {1, 6, 1, 6, 6, 6},
		{5, 1, 1, 5, 0, 2}, {2, 2, 1, 2, 1, 3}, {2, 2, 2, 4, 4, 4}, {3, 4, 4, 0, 5, 6}, {3, 4, 1, 5, 0, 6}, {3, 4, 2, 5, 6, 0},
		{3, 4, 3, 0, 0, 7}, {5, 6, 3, 0, 0, 0}, {6, 5, 5, 15, 16, 15}, {7, 9, 3, 12, 11, 9}, {9, 7, 1, 5, 16, 8}, {8, 9, 7, 8, 9, 7},
		{8, 9, 9, 7, 8, 9}, {16, 12, 4, 16, 16, 3}, {17, 12, 4, 17, 1, 15}, {33, 20, 9, 2, 1, 0},
	}
}

// sorted are so many entries, by rows and then places, none twice.
func (s *numbers) sorted(rows, cols, count int) (m []api.Entry) {
	places := map[int]bool{}
	for len(places) < count {
		places[s.below(rows*cols)] = true
	}
	for place := range rows * cols {
		if places[place] {
			m = append(m, entry(place/cols, place%cols, s.big()))
		}
	}
	return m
}

// mended is a task whose C is such that the assignment satisfies it: in each row where it
// does not, the first entry of C, which is that of 1, makes up for it.
func (x task) mended() task {
	rows := int(x.c.Rows)
	rest := slices.DeleteFunc(slices.Clone(x.c.C), func(y api.Entry) bool { return y.Col == 0 })
	left, right, sums := rowsOf(rows, x.c.A, x.z), rowsOf(rows, x.c.B, x.z), rowsOf(rows, rest, x.z)
	x.c.C = nil
	for i := range rows {
		if short := less(times(left[i], right[i]), sums[i]); short.Sign() != 0 {
			x.c.C = append(x.c.C, entry(i, 0, short))
		}
		for len(rest) > 0 && int(rest[0].Row) == i {
			x.c.C, rest = append(x.c.C, rest[0]), rest[1:]
		}
	}
	return x
}

// satisfied is a circuit of a sketch, and an assignment that satisfies it.
func (s *numbers) satisfied(x sketch) task {
	c := api.Circuit{
		Rows: uint32(x.rows), Cols: uint32(x.cols), Inputs: uint32(x.inputs),
		A: s.sorted(x.rows, x.cols, x.a), B: s.sorted(x.rows, x.cols, x.b), C: s.sorted(x.rows, x.cols, x.c),
	}
	return task{c, append(wholes(1), s.list(x.cols-1)...)}.mended()
}

// even is a task of a sketch whose entries are spread evenly, as those that were worked
// out apart from the program: of powers of 7, 11 and 13; the assignment is of powers of 17.
func (x sketch) even() task {
	spread := func(base int64, count int) (m []api.Entry) {
		for j := range count {
			place := j * x.rows * x.cols / count
			m = append(m, entry(place/x.cols, place%x.cols, raised(whole(base), 50*(j+1))))
		}
		return m
	}
	z := wholes(1)
	for j := 1; j < x.cols; j++ {
		z = append(z, raised(whole(17), 50*(j+1)))
	}
	return task{api.Circuit{
		Rows: uint32(x.rows), Cols: uint32(x.cols), Inputs: uint32(x.inputs),
		A: spread(7, x.a), B: spread(11, x.b), C: spread(13, x.c),
	}, z}.mended()
}

// tasks are one of each sketch, and the document's two.
func tasks() []task {
	l, s := []task{square(), cube()}, numbers{state: 60}
	for _, x := range sketches() {
		l = append(l, s.satisfied(x))
	}
	return l
}

// sizesOf are N, X and M of a circuit, by chapter 23.
func sizesOf(c api.Circuit) (n, x, m int) {
	power := func(least ...int) int {
		p := 1
		for slices.Max(least) > p {
			p *= 2
		}
		return p
	}
	x = power(int(c.Inputs))
	return power(int(c.Rows), x+int(c.Cols)-int(c.Inputs), 2*x), x, power(2, len(c.A), len(c.B), len(c.C))
}

// needOf is the degree that a setup must have, drawsFor how many draws a proof takes.
func needOf(c api.Circuit) int {
	n, _, m := sizesOf(c)
	return max(2*n, 6*m)
}

func drawsFor(c api.Circuit) int {
	n, _, _ := sizesOf(c)
	return 11 + 2*n
}

// draws are those of a circuit.
func (s *numbers) draws(c api.Circuit) []*big.Int { return s.list(drawsFor(c)) }

// counting are draws 1, 2, ..
func counting(count int) (d []*big.Int) {
	for i := range count {
		d = append(d, whole(int64(i+1)))
	}
	return d
}

// manyDraws are draws of several kinds: all 0, all the same, some 0, any.
func (s *numbers) manyDraws(c api.Circuit) [][]*big.Int {
	count := drawsFor(c)
	return [][]*big.Int{
		repeat(whole(0), count), repeat(whole(1), count), repeat(minus(1), count), repeat(s.great(), count), counting(count), s.draws(c), s.draws(c),
		append(repeat(whole(0), count-8), s.list(8)...), append(s.list(count-8), repeat(whole(0), 8)...),
		append(repeat(whole(0), 3), s.list(count-3)...), append(s.list(3), repeat(whole(0), count-3)...),
	}
}

// padded is a circuit laid on domains, spread an assignment.
func padded(t *testing.T, c api.Circuit) pad.Shape {
	t.Helper()
	s, e := pad.Of(c)
	if e != api.OK {
		t.Fatalf("pad: %v", e)
	}
	return s
}

func spread(t *testing.T, s pad.Shape, z []*big.Int) []*big.Int {
	t.Helper()
	l, e := s.Spread(els(z))
	if e != api.OK {
		t.Fatalf("pad: %v", e)
	}
	return backs(l)
}

// indexOf is a circuit's.
func indexOf(t *testing.T, c api.Circuit) index.Index {
	t.Helper()
	x, e := index.Of(padded(t, c))
	if e != api.OK {
		t.Fatalf("index: %v", e)
	}
	return x
}

// keyOf is the key of a circuit.
func keyOf(t *testing.T, what string, s *srs.SRS, c api.Circuit) keys.Key {
	t.Helper()
	k, e := keys.Make(s, indexOf(t, c), int(c.Inputs))
	if e != api.OK {
		t.Fatalf("%s: %v", what, e)
	}
	return k
}

// made is the setup that srs tells of two scalars.
func made(t *testing.T, tau, g *big.Int, n int) *srs.SRS {
	t.Helper()
	s, e := srs.New(el(tau), el(g), n)
	if e != api.OK || s == nil {
		t.Fatalf("New(%v, %v, %d): %v", tau, g, n, e)
	}
	return s
}

// trimmed is a setup of a lesser degree.
func trimmed(t *testing.T, s *srs.SRS, n int) *srs.SRS {
	t.Helper()
	short, e := s.Trim(n)
	if e != api.OK {
		t.Fatalf("Trim(%d): %v", n, e)
	}
	return short
}
