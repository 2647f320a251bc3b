package r1cs_test

import (
	"bytes"
	"fmt"
	"math/big"
	"slices"
	"testing"

	"marlinspike/api"
	"marlinspike/fr"
	"marlinspike/r1cs"
)

// P22.4

// textOf are what Bytes tells, circuitOf what Get tells.
func textOf(t *testing.T, c api.Circuit) []byte {
	t.Helper()
	b, e := r1cs.Bytes(c)
	if e != api.OK {
		t.Fatalf("%v: %v", c, e)
	}
	return b
}

func circuitOf(t *testing.T, b []byte) api.Circuit {
	t.Helper()
	c, e := r1cs.Get(b)
	if e != api.OK {
		t.Fatalf("%x: %v", b, e)
	}
	return c
}

// applied is what Apply tells.
func applied(t *testing.T, m []api.Entry, rows int, z []fr.El) []fr.El {
	t.Helper()
	l, e := r1cs.Apply(m, rows, z)
	if e != api.OK {
		t.Fatalf("%v of %v: %v", m, backs(z), e)
	}
	return l
}

// Circuits come back from their bytes, and bytes from their circuits; what another one
// is made of has other bytes.
func TestCircuitsAndBytesAreEachOthers(t *testing.T) {
	s := numbers{state: 40}
	seen := map[string]api.Circuit{}
	keep := func(c api.Circuit) {
		b := textOf(t, c)
		if o := circuitOf(t, b); !same(o, c) || !bytes.Equal(textOf(t, o), b) {
			t.Errorf("%v comes back as %v", c, o)
		}
		if o, is := seen[string(b)]; is && !same(o, c) {
			t.Errorf("%v and %v have the same bytes", c, o)
		}
		seen[string(b)] = c
	}
	for _, x := range slices.Concat(sketches(), sketches(), greatSketches()) {
		keep(s.drawn(x))
	}
	before := len(seen)
	for _, c := range []api.Circuit{square(), cube(), s.drawn(sketch{4, 5, 2, 6, 0, 6})} {
		keep(c)
		for i := range 3 { // the matrices' places are turned, and one of them is none, or another's
			o := clone(c)
			o.A, o.B, o.C = *matrices(&c)[i], *matrices(&c)[(i+1)%3], *matrices(&c)[(i+2)%3]
			keep(o)
			o = clone(c)
			*matrices(&o)[i] = nil
			keep(o)
			o = clone(c)
			*matrices(&o)[i] = *matrices(&c)[(i+1)%3]
			keep(o)
			for j := range *matrices(&c)[i] {
				o := clone(c)
				(*matrices(&o)[i])[j].Val = bytesOf(s.big())
				keep(o)
			}
		}
		for _, more := range [][3]uint32{{1, 0, 0}, {0, 1, 0}, {0, 0, 1}, {1, 1, 1}, {100, 500, 300}} {
			o := clone(c)
			o.Rows, o.Cols, o.Inputs = c.Rows+more[0], c.Cols+more[1], c.Inputs+more[2]
			keep(o)
		}
	}
	if len(seen) < before+60 {
		t.Errorf("just %d", len(seen))
	}
}

// added are two lists together, scaled one so many times, by the scalars' own calls.
func added(x, y []fr.El) []fr.El {
	l := slices.Clone(x)
	for i := range l {
		l[i] = x[i].Add(y[i])
	}
	return l
}

func scaled(x []fr.El, k fr.El) []fr.El {
	return all(x, func(a fr.El) fr.El { return a.Mul(k) })
}

// wantScalars fails if two lists are not the same.
func wantScalars(t *testing.T, what string, l, wanted []fr.El) {
	t.Helper()
	if !slices.Equal(l, wanted) {
		t.Errorf("%s: %v, not %v", what, backs(l), backs(wanted))
	}
}

// Sums go out over sums of assignments, and multiples.
func TestSumsAreLinear(t *testing.T) {
	s := numbers{state: 41}
	ks := append(wholes(0, 1, 2, -1), s.big(), s.big())
	for i, x := range append(slices.Repeat(sketches(), 3), greatSketches()[3]) {
		rows := x.rows + i%3
		m := s.loose(x.rows, x.cols, x.a+x.b)
		first, second := els(s.assignment(x.cols)), els(s.assignment(x.cols))
		a, b := applied(t, m, rows, first), applied(t, m, rows, second)
		what := fmt.Sprintf("%d: %v", i, x)
		wantScalars(t, what+", a sum", applied(t, m, rows, added(first, second)), added(a, b))
		k := el(ks[i%len(ks)])
		wantScalars(t, what+", a multiple", applied(t, m, rows, scaled(first, k)), scaled(a, k))
		wantScalars(t, what+", a multiple and a sum", applied(t, m, rows, added(scaled(first, k), second)), added(scaled(a, k), b))
		wantScalars(t, what+", nothing", applied(t, m, rows, make([]fr.El, x.cols)), make([]fr.El, rows))
		o := s.loose(x.rows, x.cols, x.c)
		wantScalars(t, what+", of two matrices", applied(t, slices.Concat(m, o), rows, first), added(a, applied(t, o, rows, first)))
	}
}

// Of one variable alone the sums are its column.
func TestColumns(t *testing.T) {
	s := numbers{state: 42}
	const rows, cols = 5, 6
	m := s.matrix(rows, cols, 17)
	for col := range cols {
		z, wanted := slices.Repeat(wholes(0), cols), slices.Repeat(wholes(0), rows)
		z[col] = whole(1)
		for _, x := range m {
			if x.Col == uint32(col) {
				wanted[x.Row] = numberOf(x.Val)
			}
		}
		wantSums(t, fmt.Sprint("the column ", col), m, rows, z, wanted)
	}
}

// under is one circuit with another one of as many columns under it.
func under(c, o api.Circuit) api.Circuit {
	c = clone(c)
	for i, m := range matrices(&c) {
		for _, x := range *matrices(&o)[i] {
			x.Row += c.Rows
			*m = append(*m, x)
		}
	}
	c.Rows += o.Rows
	return c
}

// What satisfies two circuits satisfies both of them, one under the other, whichever is
// above; and what does not satisfy one of them does not.
func TestOneUnderTheOther(t *testing.T) {
	s := numbers{state: 43}
	told := map[api.Errno]int{}
	for i := range 300 {
		cols := 1 + s.below(8)
		z := s.assignment(cols)
		draw := func() api.Circuit {
			rows := 1 + s.below(6)
			c := s.solve(s.drawn(sketch{rows, cols, 1 + s.below(cols), s.below(rows*cols + 1), s.below(rows*cols + 1), s.below(rows*cols + 1)}), z)
			if s.below(3) == 0 {
				c = s.unsolved(c, s.below(3), s.below(rows))
			}
			return c
		}
		a, b, o := draw(), draw(), slices.Clone(z)
		if i%10 == 0 {
			o[s.below(cols)] = s.big()
		}
		first, second := r1cs.Satisfied(a, els(o)), r1cs.Satisfied(b, els(o))
		wanted := max(first, second)
		told[wanted]++
		for j, both := range []api.Circuit{under(a, b), under(b, a), under(a, under(b, a))} {
			what := fmt.Sprintf("%d, %d", i, j)
			wantCheck(t, what, both, api.OK)
			wantSatisfied(t, what, both, o, wanted)
			rows := int(both.Rows)
			if j == 0 {
				sums := slices.Concat(applied(t, a.A, int(a.Rows), els(o)), applied(t, b.A, int(b.Rows), els(o)))
				wantScalars(t, what, applied(t, both.A, rows, els(o)), sums)
			}
		}
	}
	if told[api.OK] < 60 || told[api.ErrCheck] < 60 || len(told) != 2 {
		t.Errorf("too few: %v", told)
	}
}

// Each row by itself: a circuit is its rows, one under the other.
func TestRowsOneByOne(t *testing.T) {
	s := numbers{state: 44}
	for _, x := range sketches() {
		c, z := s.solved(x)
		if z = slices.Clone(z); x.cols > 1 {
			z[1+s.below(x.cols-1)] = s.big()
		}
		wanted := api.OK
		for row := range c.Rows {
			one := api.Circuit{Rows: 1, Cols: c.Cols, Inputs: c.Inputs}
			for i, m := range matrices(&one) {
				for _, x := range *matrices(&c)[i] {
					if x.Row == row {
						x.Row = 0
						*m = append(*m, x)
					}
				}
			}
			wanted = max(wanted, r1cs.Satisfied(one, els(z)))
		}
		wantSatisfied(t, fmt.Sprint(x), c, z, wanted)
	}
}

// A row's factors may be turned, and all of a row be multiplied: the same satisfies it.
func TestTheSameRows(t *testing.T) {
	s := numbers{state: 45}
	for i, x := range slices.Repeat(sketches(), 2) {
		c, z := s.solved(x)
		if i%2 == 1 {
			c = s.unsolved(c, i%3, x.rows-1)
		}
		wanted := r1cs.Satisfied(c, els(z))
		o := clone(c)
		o.A, o.B = o.B, o.A
		wantSatisfied(t, fmt.Sprint(x, ", turned"), o, z, wanted)
		k, j := s.big(), s.big()
		by := []*big.Int{k, j, times(k, j)}
		for i, m := range matrices(&o) {
			for at := range *m {
				(*m)[at].Val = bytesOf(times(numberOf((*m)[at].Val), by[i]))
			}
		}
		wantSatisfied(t, fmt.Sprint(x, ", multiplied"), o, z, wanted)
	}
}
