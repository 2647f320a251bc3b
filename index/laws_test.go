package index_test

import (
	"math/big"
	"slices"
	"testing"

	"marlinspike/api"
	"marlinspike/domain"
	"marlinspike/fr"
	"marlinspike/index"
	"marlinspike/pad"
	"marlinspike/poly"
)

// P24.3

// domainOf is the domain of a size.
func domainOf(t *testing.T, n int) *domain.Domain {
	t.Helper()
	d, e := domain.New(n)
	if e != api.OK {
		t.Fatalf("%d: %v", n, e)
	}
	return d
}

// alone are the scalars of one matrix by itself.
func alone(i int) (e [3]fr.El) {
	e[i] = fr.Of(1)
	return e
}

// dense is a matrix of entries, each at its place; those at one place come together.
func dense(n int, m []api.Entry) [][]*big.Int {
	rows := make([][]*big.Int, n)
	for i := range rows {
		for range n {
			rows[i] = append(rows[i], whole(0))
		}
	}
	for _, x := range m {
		rows[x.Row][x.Col] = plus(rows[x.Row][x.Col], numberOf(x.Val))
	}
	return rows
}

// lawShapes are shapes of several sizes, those of circuits and others.
func lawShapes(t *testing.T, s *numbers) (l []pad.Shape) {
	t.Helper()
	for _, x := range sketches() {
		l = append(l, padded(t, s.drawn(x)))
	}
	for _, x := range manySizes() {
		l = append(l, s.byHand(x))
	}
	return append(l, padded(t, square()), padded(t, cube()))
}

// The sum over K of val, times the Lagrange polynomial of H at row, times u(.., col), is
// the padded matrix at every pair of H's elements.
func TestTheMatrixAtEveryPair(t *testing.T) {
	s := numbers{state: 30}
	for i, shape := range lawShapes(t, &s) {
		if shape.N > 32 {
			continue
		}
		x, h, k := indexOf(t, shape), domainOf(t, shape.N), domainOf(t, shape.M)
		for j, m := range shape.Rows {
			row, col, val := k.Values(x.Row[j]), k.Values(x.Col[j]), k.Values(x.Val[j])
			wanted := dense(shape.N, m)
			lagrange := make([][]fr.El, shape.M)
			for p := range shape.M {
				for q := range shape.N { // of row's place, which is just one
					lagrange[p] = append(lagrange[p], h.Lagrange(placeOf(t, h, row[p]), h.At(q)))
				}
			}
			for y := range shape.N {
				for z := range shape.N {
					var sum fr.El
					for p := range shape.M {
						sum = sum.Add(val[p].Mul(lagrange[p][y]).Mul(h.U(h.At(z), col[p])))
					}
					if sum != el(wanted[y][z]) {
						t.Fatalf("%d: the matrix %d at %d, %d: %v, not %v", i, j, y, z, back(sum), wanted[y][z])
					}
				}
			}
		}
	}
}

// placeOf is where an element stands.
func placeOf(t *testing.T, h *domain.Domain, x fr.El) int {
	t.Helper()
	for i := range h.Size() {
		if h.At(i) == x {
			return i
		}
	}
	t.Fatalf("%v is no element of H", back(x))
	return 0
}

// As numbers, apart from the program: u(y, row) is n / y at y = row, 0 at the others, so
// that by one matrix alone Sum at two elements is n / y times the matrix there.
func TestSumAtEveryPair(t *testing.T) {
	s := numbers{state: 31}
	for i, shape := range lawShapes(t, &s) {
		if shape.N > 8 {
			continue
		}
		x, h := indexOf(t, shape), elementsOf(shape.N)
		for j, m := range shape.Rows {
			wanted := dense(shape.N, m)
			for row, y := range h {
				for place, z := range h {
					got := summed(t, x, alone(j), el(y), el(z))
					if k := per(times(whole(int64(shape.N)), wanted[row][place]), y); got != el(k) {
						t.Errorf("%d: the matrix %d at %d, %d: %v, not %v", i, j, row, place, back(got), k)
					}
				}
			}
		}
	}
}

// Over padded assignments the sum over H of u(a, h) times a matrix's rows' sums at h is
// that of Poly's polynomial, by that matrix alone, at h, times the assignment at h.
func TestSumsOverH(t *testing.T) {
	s := numbers{state: 32}
	for i, sketch := range append(sketches(), greatSketches()...) {
		shape := padded(t, s.drawn(sketch))
		x, h := indexOf(t, shape), domainOf(t, shape.N)
		z, e := shape.Spread(els(append(wholes(1), s.list(sketch.cols-1)...)))
		if e != api.OK {
			t.Fatal(e)
		}
		places := []fr.El{el(s.big()), h.At(1), h.At(0), fr.Of(0)}
		if shape.N > 500 {
			places = places[:1]
		}
		for _, a := range places {
			for j := range 3 {
				rows, e := shape.Apply(j, z)
				if e != api.OK {
					t.Fatal(e)
				}
				at := h.Values(polyAt(t, x, alone(j), a))
				var left, right fr.El
				for place := range shape.N {
					left = left.Add(h.U(a, h.At(place)).Mul(rows[place]))
					right = right.Add(at[place].Mul(z[place]))
				}
				if left != right {
					t.Errorf("%d: the matrix %d at %v: %v, not %v", i, j, back(a), back(left), back(right))
				}
			}
		}
	}
}

// And so by all three together, as many times as e says; over any lists, not padded ones
// alone.
func TestSumsOverHTogether(t *testing.T) {
	s := numbers{state: 33}
	for i, shape := range lawShapes(t, &s) {
		x, h := indexOf(t, shape), domainOf(t, shape.N)
		z, a, e := els(s.list(shape.N)), el(s.big()), three(s.triple())
		at := h.Values(polyAt(t, x, e, a))
		var left, right fr.El
		for j := range 3 {
			rows, fault := shape.Apply(j, z)
			if fault != api.OK {
				t.Fatal(fault)
			}
			for place, row := range rows {
				left = left.Add(e[j].Mul(h.U(a, h.At(place))).Mul(row))
			}
		}
		for place := range z {
			right = right.Add(at[place].Mul(z[place]))
		}
		if left != right {
			t.Errorf("%d: %v, not %v", i, back(left), back(right))
		}
	}
}

// Sums go by their scalars: e + k f, and each matrix by itself.
func TestSumsGoByTheirScalars(t *testing.T) {
	s := numbers{state: 34}
	for i, shape := range lawShapes(t, &s) {
		x := indexOf(t, shape)
		e, f, k, a, b := three(s.triple()), three(s.triple()), el(s.big()), el(s.big()), el(s.big())
		var both [3]fr.El
		for j := range both {
			both[j] = e[j].Add(k.Mul(f[j]))
		}
		if got, wanted := summed(t, x, both, a, b), summed(t, x, e, a, b).Add(k.Mul(summed(t, x, f, a, b))); got != wanted {
			t.Errorf("%d: Sum: %v, not %v", i, back(got), back(wanted))
		}
		p, q := polyAt(t, x, e, a), polyAt(t, x, f, a)
		if got, wanted := polyAt(t, x, both, a), poly.Add(p, poly.Scale(q, k)); !slices.Equal(got, wanted) {
			t.Errorf("%d: Poly: %v, not %v", i, backs(got), backs(wanted))
		}
		var each fr.El
		var all []fr.El
		for j := range 3 {
			each = each.Add(e[j].Mul(summed(t, x, alone(j), a, b)))
			all = poly.Add(all, poly.Scale(polyAt(t, x, alone(j), a), e[j]))
		}
		if each != summed(t, x, e, a, b) || !slices.Equal(all, p) {
			t.Errorf("%d: each by itself it is another one", i)
		}
	}
}

// Poly is worth Sum, at N places and more; and through N of them it is the only one.
func TestPolyIsWorthSum(t *testing.T) {
	s := numbers{state: 35}
	for i, shape := range lawShapes(t, &s) {
		if shape.N > 16 {
			continue
		}
		x, e, a := indexOf(t, shape), three(s.triple()), el(s.big())
		p := polyAt(t, x, e, a)
		var xs, ys []fr.El
		for j := range shape.N + 2 {
			b := fr.Of(int64(j*j - 3))
			xs, ys = append(xs, b), append(ys, summed(t, x, e, a, b))
			if poly.Eval(p, b) != ys[j] {
				t.Errorf("%d: at %v it is worth %v, not %v", i, back(b), back(poly.Eval(p, b)), back(ys[j]))
			}
		}
		if wanted, fault := poly.Points(xs[:shape.N], ys[:shape.N]); fault != api.OK || !slices.Equal(p, wanted) {
			t.Errorf("%d: %v, not %v, %v", i, backs(p), backs(wanted), fault)
		}
	}
}

// Rows and columns that are changed for each other, at a and b that are so, too, tell the
// same: val goes by col alone, so what was laid on it is laid on row.
func TestTransposed(t *testing.T) {
	s := numbers{state: 36}
	for i, shape := range lawShapes(t, &s) {
		if shape.N > 64 {
			continue
		}
		x := indexOf(t, shape)
		turned := cloneShape(shape)
		h := elementsOf(shape.N)
		for j := range turned.Rows {
			for k := range turned.Rows[j] {
				entry := &turned.Rows[j][k]
				entry.Row, entry.Col = entry.Col, entry.Row
				entry.Val = bytesOf(per(times(numberOf(entry.Val), h[entry.Row]), h[entry.Col]))
			}
		}
		o := indexOf(t, turned)
		e, a, b := three(s.triple()), el(s.big()), el(s.big())
		if got, wanted := summed(t, o, e, b, a), summed(t, x, e, a, b); got != wanted {
			t.Errorf("%d: %v, not %v", i, back(got), back(wanted))
		}
	}
}

// The order of entries, and how great K is, play no part in sums; entries at one place are
// as good as one that is their sum.
func TestSumsAreOfTheMatrix(t *testing.T) {
	s := numbers{state: 37}
	for i := range 30 {
		n := 1 << s.below(5)
		shape := s.byHand(sized{n, 16, 16, 9, 12})
		other := pad.Shape{N: n, M: 1024}
		for j, m := range shape.Rows {
			for row, numbers := range dense(n, m) {
				for place, k := range numbers {
					if k.Sign() != 0 {
						other.Rows[j] = append(other.Rows[j], entry(row, place, k))
					}
				}
			}
		}
		x, o := indexOf(t, shape), indexOf(t, other)
		for _, rows := range shape.Rows {
			slices.Reverse(rows)
		}
		back := indexOf(t, shape)
		e, a, b := three(s.triple()), el(s.big()), el(s.big())
		for _, y := range []index.Index{o, back} {
			if summed(t, y, e, a, b) != summed(t, x, e, a, b) || !slices.Equal(polyAt(t, y, e, a), polyAt(t, x, e, a)) {
				t.Errorf("%d: it is another one", i)
			}
		}
	}
}

// Each matrix is its own: in another order of them all is in that order.
func TestMatricesAreApart(t *testing.T) {
	s := numbers{state: 38}
	for _, x := range []sized{{4, 8, 8, 5, 3}, {8, 4, 4, 0, 4}, {2, 2, 1, 2, 0}} {
		shape := s.byHand(x)
		first, e, a, b := indexOf(t, shape), three(s.triple()), el(s.big()), el(s.big())
		for _, order := range [][3]int{{0, 2, 1}, {1, 0, 2}, {1, 2, 0}, {2, 0, 1}, {2, 1, 0}} {
			o, f := shape, e
			for i, j := range order {
				o.Rows[i], f[i] = shape.Rows[j], e[j]
			}
			got := indexOf(t, o)
			for i, j := range order {
				if !slices.Equal(got.Row[i], first.Row[j]) || !slices.Equal(got.Col[i], first.Col[j]) || !slices.Equal(got.Val[i], first.Val[j]) {
					t.Errorf("%v: the matrix %d is another one", order, i)
				}
			}
			if summed(t, got, f, a, b) != summed(t, first, e, a, b) || !slices.Equal(polyAt(t, got, f, a), polyAt(t, first, e, a)) {
				t.Errorf("%v: sums are other ones", order)
			}
		}
	}
}

// Values of polynomials that an assignment of the circuit makes: what satisfies it makes
// both sums alike, of A's rows times B's and of C's.
func TestSatisfied(t *testing.T) {
	shape := padded(t, cube())
	x, h := indexOf(t, shape), domainOf(t, 8)
	for _, y := range []int64{35, 36} {
		z, e := shape.Spread(els(wholes(1, y, 3, 9, 27)))
		if e != api.OK {
			t.Fatal(e)
		}
		a := fr.Of(12345)
		at := h.Values(polyAt(t, x, alone(2), a))
		var c, product fr.El
		first, _ := shape.Apply(0, z)
		second, _ := shape.Apply(1, z)
		for place := range 8 {
			c = c.Add(at[place].Mul(z[place]))
			product = product.Add(h.U(a, h.At(place)).Mul(first[place]).Mul(second[place]))
		}
		if (c == product) != (y == 35) {
			t.Errorf("%d: %v, %v", y, back(c), back(product))
		}
	}
}
