package keys_test

import (
	"math/big"
	"slices"
	"testing"

	"marlinspike/api"
	"marlinspike/fr"
	"marlinspike/index"
	"marlinspike/keys"
	"marlinspike/pad"
	"marlinspike/srs"
)

// Circuits, what the layers below make of them, and their keys by the chapters' words.

// entry is one of a number.
func entry(row, col int, val *big.Int) api.Entry {
	return api.Entry{Row: uint32(row), Col: uint32(col), Val: bytesOf(mod(val))}
}

// entries are some: of each the row, the place, and a small number.
func entries(l ...[3]int64) (m []api.Entry) {
	for _, x := range l {
		m = append(m, entry(int(x[0]), int(x[1]), whole(x[2])))
	}
	return m
}

// square is x x = y, of 1, y, x.
func square() api.Circuit {
	x, y := entries([3]int64{0, 2, 1}), entries([3]int64{0, 1, 1})
	return api.Circuit{Rows: 1, Cols: 3, Inputs: 2, A: x, B: slices.Clone(x), C: y}
}

// cube is x x x + x + 5 = y, of 1, y, x, x x, x x x: the last row is x x x + x, times 1,
// that is y - 5.
func cube() api.Circuit {
	return api.Circuit{
		Rows: 3, Cols: 5, Inputs: 2,
		A: entries([3]int64{0, 2, 1}, [3]int64{1, 3, 1}, [3]int64{2, 2, 1}, [3]int64{2, 4, 1}),
		B: entries([3]int64{0, 2, 1}, [3]int64{1, 2, 1}, [3]int64{2, 0, 1}),
		C: entries([3]int64{0, 3, 1}, [3]int64{1, 4, 1}, [3]int64{2, 0, -5}, [3]int64{2, 1, 1}),
	}
}

// sketch is what a circuit is to be like: how many rows, columns, inputs, and entries of
// A, B and C.
type sketch struct{ rows, cols, inputs, a, b, c int }

// sketches are of several sizes; some have no entries in a matrix, or in all, some have
// matrices that are full; of some all variables are inputs, of some one; of some the need
// is 2 N.
func sketches() []sketch {
	return []sketch{
		{1, 1, 1, 0, 0, 0}, {1, 1, 1, 1, 1, 1}, {1, 3, 2, 1, 1, 1}, {1, 5, 5, 3, 2, 5}, {1, 6, 1, 6, 6, 6},
		{5, 1, 1, 5, 0, 2}, {2, 2, 1, 2, 1, 3}, {2, 2, 2, 4, 4, 4}, {3, 4, 4, 0, 5, 6}, {3, 4, 1, 5, 0, 6},
		{3, 4, 2, 5, 6, 0}, {5, 6, 3, 0, 0, 0}, {6, 5, 5, 15, 16, 15}, {7, 9, 3, 12, 11, 9}, {8, 9, 7, 8, 9, 7},
		{17, 12, 4, 17, 1, 15}, {33, 20, 9, 2, 1, 0}, {60, 40, 3, 2, 1, 2},
	}
}

// circuit is one of a sketch, of any entries.
func (s *numbers) circuit(x sketch) api.Circuit {
	sorted := func(count int) (m []api.Entry) {
		places := map[int]bool{}
		for len(places) < count {
			places[s.below(x.rows*x.cols)] = true
		}
		for place := range x.rows * x.cols {
			if places[place] {
				m = append(m, entry(place/x.cols, place%x.cols, s.big()))
			}
		}
		return m
	}
	return api.Circuit{
		Rows: uint32(x.rows), Cols: uint32(x.cols), Inputs: uint32(x.inputs), A: sorted(x.a), B: sorted(x.b), C: sorted(x.c),
	}
}

// circuits are one of each sketch, and the document's two.
func circuits() []api.Circuit {
	l, s := []api.Circuit{square(), cube()}, numbers{state: 60}
	for _, x := range sketches() {
		l = append(l, s.circuit(x))
	}
	return l
}

// even is a circuit of a sketch whose entries are spread evenly, as those that were worked
// out apart from the program: of powers of 7, 11 and 13.
func (x sketch) even() api.Circuit {
	spread := func(base int64, count int) (m []api.Entry) {
		for j := range count {
			place := j * x.rows * x.cols / count
			m = append(m, entry(place/x.cols, place%x.cols, raised(whole(base), 50*(j+1))))
		}
		return m
	}
	return api.Circuit{
		Rows: uint32(x.rows), Cols: uint32(x.cols), Inputs: uint32(x.inputs),
		A: spread(7, x.a), B: spread(11, x.b), C: spread(13, x.c),
	}
}

// padded is a circuit laid on domains, indexed its index.
func padded(t *testing.T, c api.Circuit) pad.Shape {
	t.Helper()
	s, e := pad.Of(c)
	if e != api.OK {
		t.Fatalf("pad: %v", e)
	}
	return s
}

func indexed(t *testing.T, s pad.Shape) index.Index {
	t.Helper()
	x, e := index.Of(s)
	if e != api.OK {
		t.Fatalf("index: %v", e)
	}
	return x
}

// keyOf is the key of a circuit.
func keyOf(t *testing.T, what string, s *srs.SRS, c api.Circuit) keys.Key {
	t.Helper()
	p := padded(t, c)
	k, e := keys.Make(s, indexed(t, p), p.Inputs)
	if e != api.OK {
		t.Fatalf("%s: %v", what, e)
	}
	return k
}

// nonSquare is the least number from 2 on that is no square by r.
var nonSquare = func() *big.Int {
	half := new(big.Int).Rsh(r, 1)
	for n := int64(2); ; n++ {
		if new(big.Int).Exp(whole(n), half, r).Cmp(whole(1)) != 0 {
			return whole(n)
		}
	}
}()

// elementsOf are those of the domain of n, in order.
func elementsOf(n int) []*big.Int {
	exponent := new(big.Int).Div(minus(1), whole(int64(n)))
	g := new(big.Int).Exp(nonSquare, exponent, r)
	l := []*big.Int{whole(1)}
	for len(l) < n {
		l = append(l, times(l[len(l)-1], g))
	}
	return l
}

// valuesOf are what Row, Col and Val of the three matrices of a shape's index are worth on
// K, in the order of a key's bytes.
func valuesOf(s pad.Shape) (l [9][]*big.Int) {
	h := elementsOf(s.N)
	for i, m := range s.Rows {
		for k := range s.M {
			row, col, val := whole(1), whole(1), whole(0)
			if k < len(m) {
				row, col = h[m[k].Row], h[m[k].Col]
				slope := times(whole(int64(s.N)), raised(col, s.N-1))
				val = per(new(big.Int).SetBytes(m[k].Val[:]), slope)
			}
			l[i], l[3+i], l[6+i] = append(l[i], row), append(l[3+i], col), append(l[6+i], val)
		}
	}
	return l
}

// worthAt is what the polynomial of values on a domain is worth at z.
func worthAt(values []*big.Int, z *big.Int) *big.Int {
	n := len(values)
	v, sum := less(raised(z, n), whole(1)), whole(0)
	for i, x := range elementsOf(n) {
		if x.Cmp(mod(z)) == 0 {
			return values[i]
		}
		sum = plus(sum, per(times(values[i], x), less(z, x)))
	}
	return per(times(v, sum), whole(int64(n)))
}

// through is the polynomial of values on a domain.
func through(values []*big.Int) (p []*big.Int) {
	n := len(values)
	elements := elementsOf(n)
	for j := range n {
		sum := whole(0)
		for k, x := range values {
			sum = plus(sum, times(x, elements[(n-j)*k%n]))
		}
		p = append(p, per(sum, whole(int64(n))))
	}
	return p
}

// taleOf is the key of a shape by the setup of two scalars, of the degree d.
func taleOf(s pad.Shape, tau, g *big.Int, d int) tale {
	x := tale{five: five{s.N, s.X, s.M, s.Inputs, d}, blind: g, tau: tau}
	for i, values := range valuesOf(s) {
		x.c[i] = worthAt(values, tau)
	}
	return x
}

// taleBy is that by any setup.
func taleBy(s pad.Shape, o exps) tale {
	x := tale{five: five{s.N, s.X, s.M, s.Inputs, len(o.powers) - 1}, blind: o.blinds[0], tau: o.tau}
	for i, values := range valuesOf(s) {
		x.c[i] = o.commitment(through(values))
	}
	return x
}

// lists are an Index's polynomials, in the order of a key's bytes.
func lists(x index.Index) (l [9][]*big.Int) {
	for i := range l {
		l[i] = backs([][3][]fr.El{x.Row, x.Col, x.Val}[i/3][i%3])
	}
	return l
}

// byHand is an Index of these numbers and polynomials, in that order.
func byHand(f five, l [9][]*big.Int) index.Index {
	x := index.Index{N: f.n, X: f.x, M: f.m}
	for i, p := range l {
		[]*[3][]fr.El{&x.Row, &x.Col, &x.Val}[i/3][i%3] = els(p)
	}
	return x
}

// taleOfLists is the key of an Index by hand.
func taleOfLists(f five, l [9][]*big.Int, o exps) tale {
	f.d = len(o.powers) - 1
	x := tale{five: f, blind: o.blinds[0], tau: o.tau}
	for i, p := range l {
		x.c[i] = o.commitment(p)
	}
	return x
}
