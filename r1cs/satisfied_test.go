package r1cs_test

import (
	"fmt"
	"math/big"
	"slices"
	"testing"

	"marlinspike/api"
	"marlinspike/r1cs"
)

// P22.2

// Assignments that satisfy circuits, and the same with one number or the first one
// another one.
func TestSatisfied(t *testing.T) {
	s := numbers{state: 20}
	told := map[api.Errno]int{}
	for _, x := range slices.Repeat(sketches(), 3) {
		c, z := s.solved(x)
		wantCheck(t, fmt.Sprint(x), c, api.OK)
		wantSatisfied(t, fmt.Sprint(x), c, z, api.OK)
		for i := range z {
			o := slices.Clone(z)
			o[i] = plus(z[i], s.big())
			wanted := answer(c, o)
			told[wanted]++
			wantSatisfied(t, fmt.Sprintf("%v, another one at %d", x, i), c, o, wanted)
		}
		o := s.assignment(x.cols)
		wantSatisfied(t, fmt.Sprint(x, ", others"), c, o, answer(c, o))
	}
	if told[api.OK] < 20 || told[api.ErrCheck] < 300 {
		t.Errorf("too few: %v", told)
	}
}

func TestGreatCircuits(t *testing.T) {
	s := numbers{state: 21}
	for _, x := range greatSketches() {
		c, z := s.drawn(x), s.assignment(x.cols)
		wantSatisfied(t, fmt.Sprint(x), c, z, answer(c, z))
		c.C = nil // so that there is room for it
		c = s.solve(c, z)
		wantSatisfied(t, fmt.Sprint(x, ", solved"), c, z, api.OK)
		c = s.unsolved(c, 2, x.rows-1)
		wantSatisfied(t, fmt.Sprint(x, ", but for the last row"), c, z, answer(c, z))
	}
}

// At each row, and by each matrix, a circuit does not hold, and at all others it does.
func TestEachRow(t *testing.T) {
	s := numbers{state: 22}
	count := 0
	for _, x := range sketches() {
		c, z := s.solved(x)
		for row := range x.rows {
			for i := range 3 {
				o := clone(c)
				o = s.unsolved(o, i, row)
				l := broken(o, z)
				if len(l) > 0 && !slices.Equal(l, []int{row}) {
					t.Errorf("%v: the model, by the matrix %d: %v, not %d", x, i, l, row)
				}
				count += len(l)
				wantSatisfied(t, fmt.Sprintf("%v, the row %d, by the matrix %d", x, row, i), o, z, answer(o, z))
			}
		}
	}
	if count < 300 {
		t.Errorf("just %d do not hold", count)
	}
}

// unsolved is a circuit with another entry, or one more, in a row of a matrix.
func (s *numbers) unsolved(c api.Circuit, i, row int) api.Circuit {
	m := matrices(&c)[i]
	for j, x := range *m {
		if x.Row == uint32(row) {
			k := plus(numberOf(x.Val), s.big())
			if k.Sign() != 0 {
				(*m)[j].Val = bytesOf(k)
				return c
			}
		}
	}
	at := slices.IndexFunc(*m, func(x api.Entry) bool { return x.Row > uint32(row) })
	if at < 0 {
		at = len(*m)
	}
	if at > 0 && (*m)[at-1].Row == uint32(row) {
		return c // the one that is there would be 0
	}
	*m = slices.Insert(*m, at, api.Entry{Row: uint32(row), Val: bytesOf(s.big())})
	return c
}

// Each factor counts: rows whose sums are told by hand.
func TestRowsByHand(t *testing.T) {
	c := api.Circuit{
		Rows: 4, Cols: 4, Inputs: 1,
		A: entries([3]int64{0, 1, 1}, [3]int64{1, 1, 2}, [3]int64{1, 2, -1}, [3]int64{3, 0, 1}),
		B: entries([3]int64{0, 2, 1}, [3]int64{1, 0, 5}, [3]int64{2, 3, 1}, [3]int64{3, 3, 1}),
		C: entries([3]int64{0, 3, 1}, [3]int64{1, 0, -15}, [3]int64{1, 1, 10}, [3]int64{3, 3, 1}),
	} // x y = p; (2 x - y) 5 = 10 x - 15; 0 p = 0; 1 p = p
	for _, x := range []struct {
		z      []*big.Int
		wanted api.Errno
	}{
		{wholes(1, 7, 3, 21), api.OK}, {wholes(1, 0, 3, 0), api.OK}, {wholes(1, -1, 3, -3), api.OK},
		{wholes(1, 7, 3, 22), api.ErrCheck}, {wholes(1, 7, 4, 28), api.ErrCheck}, {wholes(1, 3, 7, 21), api.ErrCheck}, {wholes(1, 0, 0, 0), api.ErrCheck},
	} {
		wantSatisfied(t, fmt.Sprint(x.z), c, x.z, x.wanted)
	}
}

// The product's negative, its inverse, 0 and others are not the product.
func TestOtherProducts(t *testing.T) {
	for _, k := range wholes(3, -3, 1, -1, 1<<40) {
		right := times(k, k)
		wantSatisfied(t, fmt.Sprint("of ", k), square(), []*big.Int{whole(1), right, k}, api.OK)
		for _, y := range []*big.Int{new(big.Int).Neg(right), new(big.Int).ModInverse(right, r), whole(0), k, plus(k, k), plus(right, whole(1)), less(right, whole(1))} {
			wanted := api.ErrCheck
			if mod(y).Cmp(right) == 0 {
				wanted = api.OK
			}
			wantSatisfied(t, fmt.Sprintf("of %v, %v", k, y), square(), []*big.Int{whole(1), y, k}, wanted)
		}
	}
}

// A circuit without entries is satisfied by all that begins with 1.
func TestNoEntries(t *testing.T) {
	s := numbers{state: 23}
	for _, size := range [][3]uint32{{1, 1, 1}, {1024, 1, 1}, {1, 1024, 3}, {1024, 1024, 1024}, {3, 5, 5}} {
		c := api.Circuit{Rows: size[0], Cols: size[1], Inputs: size[2]}
		z := s.assignment(int(size[1]))
		wantSatisfied(t, fmt.Sprint(size), c, z, api.OK)
		c.A, c.B = entries([3]int64{0, 0, 4}), nil
		wantSatisfied(t, fmt.Sprint(size, " and A"), c, z, api.OK)
		c.A, c.B = nil, entries([3]int64{0, 0, 4})
		wantSatisfied(t, fmt.Sprint(size, " and B"), c, z, api.OK)
		c.B, c.C = nil, entries([3]int64{0, 0, 4})
		wantSatisfied(t, fmt.Sprint(size, " and C"), c, z, api.ErrCheck)
		c.A, c.B, c.C = entries([3]int64{0, 0, 4}), entries([3]int64{0, 0, -2}), nil
		wantSatisfied(t, fmt.Sprint(size, ", A and B"), c, z, api.ErrCheck)
		c.C = entries([3]int64{0, 0, -8})
		wantSatisfied(t, fmt.Sprint(size, " and all"), c, z, api.OK)
	}
}

// How many inputs there are plays no part.
func TestInputsPlayNoPart(t *testing.T) {
	for inputs := uint32(1); inputs <= 5; inputs++ {
		c := cube()
		c.Inputs = inputs
		wantSatisfied(t, fmt.Sprint(inputs), c, wholes(1, 35, 3, 9, 27), api.OK)
		wantSatisfied(t, fmt.Sprint(inputs, ", others"), c, wholes(1, 35, 3, 9, 28), api.ErrCheck)
	}
}

// The first one is not 1, whether all rows hold or not.
func TestTheFirst(t *testing.T) {
	s := numbers{state: 24}
	for _, x := range sketches() {
		c, z := s.solved(x)
		for _, first := range append(wholes(0, 2, -1, 256, 1<<62), s.big(), new(big.Int).Rsh(r, 1)) {
			if first.Cmp(whole(1)) == 0 {
				continue
			}
			o := slices.Clone(z)
			o[0] = first
			wantSatisfied(t, fmt.Sprintf("%v from %v", x, first), c, o, api.ErrCheck)
			wantSatisfied(t, fmt.Sprintf("%v without entries, from %v", x, first), api.Circuit{Rows: c.Rows, Cols: c.Cols, Inputs: c.Inputs}, o, api.ErrCheck)
			zeros := slices.Repeat(wholes(0), x.cols)
			zeros[0] = first
			wantSatisfied(t, fmt.Sprintf("%v, all 0 but %v", x, first), c, zeros, api.ErrCheck)
		}
		l := slices.Repeat(wholes(0), x.cols) // all rows hold of it
		wantSatisfied(t, fmt.Sprint(x, ", all 0"), c, l, api.ErrCheck)
	}
}

// As many scalars as there are columns, and others: more or fewer, whatever they are.
func TestLengths(t *testing.T) {
	s := numbers{state: 25}
	for i, x := range append(sketches(), greatSketches()[:3]...) {
		c, z := s.solved(sketch{x.rows, x.cols, x.inputs, x.a, x.b, 0})
		far := x.cols + 1<<16
		if i%6 > 0 {
			far = x.cols + 1<<8
		}
		for _, count := range []int{0, 1, x.rows, x.inputs, x.cols - 1, x.cols + 1, 2 * x.cols, far} {
			if count == x.cols {
				continue
			}
			l := slices.Concat(z, slices.Repeat(wholes(5), count))[:count]
			wantSatisfied(t, fmt.Sprintf("%v of %d", x, count), c, l, api.ErrArg)
			wantSatisfied(t, fmt.Sprintf("%v of %d times 2", x, count), c, slices.Repeat(wholes(2), count), api.ErrArg)
		}
		if e := r1cs.Satisfied(c, nil); e != api.ErrArg {
			t.Errorf("%v of nil: %v", x, e)
		}
	}
}

// What is no circuit is refused ahead of all that is asked of the assignment.
func TestNoCircuits(t *testing.T) {
	s := numbers{state: 26}
	for i := range 3000 {
		c := s.spoilt(s.drawn(sketches()[6+i%12]), 1+i%3)
		if fault(c) == api.OK {
			continue
		}
		for _, z := range [][]*big.Int{nil, wholes(1), wholes(2), s.assignment(int(c.Cols % 2000)), s.assignment(int(c.Cols%2000) + 1)} {
			wantSatisfied(t, fmt.Sprintf("the circuit %d, %d scalars", i, len(z)), c, z, fault(c))
		}
	}
}
