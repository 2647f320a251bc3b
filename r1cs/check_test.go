package r1cs_test

import (
	"encoding/hex"
	"fmt"
	"math"
	"math/big"
	"slices"
	"testing"

	"marlinspike/api"
	"marlinspike/fr"
	"marlinspike/r1cs"
)

// P22.1: Check; and the forms of all calls, which are a part of the promises.
var (
	_ func(c api.Circuit) api.Errno                                 = r1cs.Check
	_ func(m []api.Entry, rows int, z []fr.El) ([]fr.El, api.Errno) = r1cs.Apply
	_ func(c api.Circuit, z []fr.El) api.Errno                      = r1cs.Satisfied
	_ func(c api.Circuit) ([]byte, api.Errno)                       = r1cs.Bytes
	_ func(b []byte) (api.Circuit, api.Errno)                       = r1cs.Get
)

// What the tests hold the program against is held against what was worked out apart.
func TestModel(t *testing.T) {
	for i, x := range allApart() {
		c, z := ruled(x.sketch), ruledBy(x.sketch)
		for j, m := range matrices(&c) {
			l := sums(*m, x.rows, z)
			if digestOf(l) != x.sums[j] || l[x.rows-1].Text(16) != x.last[j] {
				t.Errorf("%d: the sums of the matrix %d: %v", i, j, l)
			}
		}
		o := ruledSolved(x.sketch)
		if digest(text(c)) != x.text || digest(text(o)) != x.solved || len(broken(c, z)) != x.broken || len(broken(o, z)) != 0 {
			t.Errorf("%d: %s, %s, %v, %v", i, digest(text(c)), digest(text(o)), broken(c, z), broken(o, z))
		}
		if fault(c) != api.OK || fault(o) != api.OK {
			t.Errorf("%d: %v, %v", i, fault(c), fault(o))
		}
	}
	for i, c := range []api.Circuit{square(), cube(), odd()} {
		if hex.EncodeToString(text(c)) != []string{squareText, cubeText, oddText}[i] || fault(c) != api.OK {
			t.Errorf("the circuit %d: %x", i, text(c))
		}
	}
}

func TestToldApart(t *testing.T) {
	for i, x := range allApart() {
		c, z := ruled(x.sketch), ruledBy(x.sketch)
		wantCheck(t, fmt.Sprint(i), c, api.OK)
		for j, m := range matrices(&c) {
			l, e := r1cs.Apply(*m, x.rows, els(z))
			if k := backs(l); e != api.OK || digestOf(k) != x.sums[j] || k[x.rows-1].Text(16) != x.last[j] {
				t.Errorf("%d: the sums of the matrix %d: %v, %v", i, j, k, e)
			}
		}
		o := ruledSolved(x.sketch)
		for j, k := range []api.Circuit{c, o} {
			if b, e := r1cs.Bytes(k); e != api.OK || digest(b) != []string{x.text, x.solved}[j] {
				t.Errorf("%d: the bytes of the circuit %d: %s, %v", i, j, digest(b), e)
			}
		}
		wantSatisfied(t, fmt.Sprint(i, ", by a rule"), c, z, api.ErrCheck)
		wantSatisfied(t, fmt.Sprint(i, ", solved"), o, z, api.OK)
	}
	for i, c := range []api.Circuit{square(), cube(), odd()} {
		b, _ := hex.DecodeString([]string{squareText, cubeText, oddText}[i])
		wantText(t, fmt.Sprint("the circuit ", i), c, b)
	}
}

func TestExamples(t *testing.T) {
	c := square()
	wantCheck(t, "x x = y", c, api.OK)
	wantSatisfied(t, "1, 9, 3", c, wholes(1, 9, 3), api.OK)
	wantSatisfied(t, "1, 9, -3", c, wholes(1, 9, -3), api.OK)
	wantSatisfied(t, "1, 9, 4", c, wholes(1, 9, 4), api.ErrCheck)
	wantSatisfied(t, "2, 9, 3", c, wholes(2, 9, 3), api.ErrCheck)
	c = cube()
	wantCheck(t, "x x x + x + 5 = y", c, api.OK)
	wantSatisfied(t, "1, 35, 3, 9, 27", c, wholes(1, 35, 3, 9, 27), api.OK)
	wantSatisfied(t, "1, 36, 3, 9, 27", c, wholes(1, 36, 3, 9, 27), api.ErrCheck)
}

func TestCheck(t *testing.T) {
	s := numbers{state: 1}
	for _, x := range append(sketches(), greatSketches()...) {
		wantCheck(t, fmt.Sprint(x), s.drawn(x), api.OK)
	}
}

// counts are numbers at the edges; more of them are others whose last bytes are those of
// numbers that may be.
func counts() []uint32 {
	return []uint32{0, 1, 2, 3, api.MaxRows - 1, api.MaxRows, api.MaxRows + 1, 2 * api.MaxRows, 1<<15 + 1, 1 << 16, 1<<16 + 1, 1<<24 + 1, 1 << 31, 1<<31 + 1, math.MaxUint32 - 1, math.MaxUint32}
}

// Without any entry, and with those that any circuit may have.
func TestNumbers(t *testing.T) {
	one := entries([3]int64{0, 0, 5})
	for _, rows := range counts() {
		for _, cols := range counts() {
			for _, inputs := range append(counts(), cols-1, cols+1) {
				wanted := api.OK
				if rows < 1 || rows > 1024 || cols < 1 || cols > 1024 || inputs < 1 || inputs > cols {
					wanted = api.ErrArg
				}
				what := fmt.Sprintf("%d rows, %d columns, %d inputs", rows, cols, inputs)
				c := api.Circuit{Rows: rows, Cols: cols, Inputs: inputs}
				wantCheck(t, what, c, wanted)
				c.A, c.B, c.C = one, one, one
				wantCheck(t, what+", with an entry each", c, wanted)
			}
		}
	}
}

// filled is a matrix of so many entries, at the first places of 1024 rows and columns.
func filled(count int) (m []api.Entry) {
	for i := range count {
		m = append(m, at(i/1024, i%1024, whole(int64(i+1))))
	}
	return m
}

func TestMostEntries(t *testing.T) {
	whole := api.Circuit{Rows: 1024, Cols: 1024, Inputs: 1}
	full := filled(api.MaxEntry)
	for i := range 3 {
		for _, others := range [][]api.Entry{nil, filled(1), full} {
			c := whole
			for _, m := range matrices(&c) {
				*m = others
			}
			what := fmt.Sprintf("of the matrix %d, with %d in the others", i, len(others))
			*matrices(&c)[i] = full
			wantCheck(t, "the most "+what, c, api.OK)
			for _, more := range []int{1, 2, api.MaxEntry, 1<<16 - api.MaxEntry, 1<<16 + 1} {
				*matrices(&c)[i] = filled(api.MaxEntry + more)
				wantCheck(t, fmt.Sprintf("%d more %s", more, what), c, api.ErrLong)
				*matrices(&c)[i] = make([]api.Entry, api.MaxEntry+more)
				wantCheck(t, fmt.Sprintf("%d more that are not right %s", more, what), c, api.ErrLong)
			}
		}
	}
	whole.A, whole.B, whole.C = filled(api.MaxEntry+1), filled(api.MaxEntry+1), filled(api.MaxEntry+1)
	wantCheck(t, "one more in all", whole, api.ErrLong)
}

// What is asked first is answered: the numbers, how many entries there are in any
// matrix, and only then the entries.
func TestWhatIsAskedFirst(t *testing.T) {
	bad := []api.Entry{{Row: math.MaxUint32}, {Col: math.MaxUint32}, {}}
	long := make([]api.Entry, api.MaxEntry+1)
	for i := range 3 {
		for j := range 3 {
			c := square()
			*matrices(&c)[i], *matrices(&c)[j] = bad, long
			wantCheck(t, fmt.Sprintf("bad entries in %d, too many in %d", i, j), c, api.ErrLong)
			for k, spoil := range []func(c *api.Circuit){
				func(c *api.Circuit) { c.Rows = 0 }, func(c *api.Circuit) { c.Rows = 1025 },
				func(c *api.Circuit) { c.Cols = 0 }, func(c *api.Circuit) { c.Cols = 1025 },
				func(c *api.Circuit) { c.Inputs = 0 }, func(c *api.Circuit) { c.Inputs = 4 },
			} {
				o := c
				spoil(&o)
				wantCheck(t, fmt.Sprintf("and the numbers, %d", k), o, api.ErrArg)
				o = square()
				*matrices(&o)[i] = bad
				spoil(&o)
				wantCheck(t, fmt.Sprintf("the numbers, and entries, %d", k), o, api.ErrArg)
			}
		}
	}
}

// An entry at the last row and column, and beyond either.
func TestBounds(t *testing.T) {
	for _, size := range [][2]uint32{{1, 1}, {1, 3}, {4, 1}, {5, 7}, {7, 5}, {1024, 1024}, {1024, 2}, {2, 1024}} {
		rows, cols := size[0], size[1]
		for i := range 3 {
			for _, row := range []uint32{0, rows / 2, rows - 1, rows, rows + 1, cols, rows + 1<<16, 1<<31 + rows - 1, math.MaxUint32} {
				for _, col := range []uint32{0, cols / 2, cols - 1, cols, cols + 1, rows, cols + 1<<16, 1<<31 + cols - 1, math.MaxUint32} {
					wanted := api.OK
					if row >= rows || col >= cols {
						wanted = api.ErrIndex
					}
					c := api.Circuit{Rows: rows, Cols: cols, Inputs: 1}
					x := api.Entry{Row: row, Col: col, Val: bytesOf(whole(3))}
					*matrices(&c)[i] = []api.Entry{x}
					what := fmt.Sprintf("%d, %d of %v in the matrix %d", row, col, size, i)
					wantCheck(t, what, c, wanted)
					if row > 0 || col > 0 {
						*matrices(&c)[i] = []api.Entry{at(0, 0, whole(5)), x}
						wantCheck(t, what+", behind another one", c, wanted)
					}
				}
			}
		}
	}
}

// Each pair of places, one behind the other.
func TestOrder(t *testing.T) {
	const rows, cols = 4, 3
	for first := range rows * cols {
		for second := range rows * cols {
			wanted := api.ErrIndex
			if first < second {
				wanted = api.OK
			}
			pair := []api.Entry{at(first/cols, first%cols, whole(1)), at(second/cols, second%cols, whole(2))}
			for i := range 3 {
				c := api.Circuit{Rows: rows, Cols: cols, Inputs: 2}
				for _, m := range matrices(&c) { // the other ones end behind where it begins
					*m = entries([3]int64{0, 0, 1}, [3]int64{3, 2, 1})
				}
				*matrices(&c)[i] = pair
				wantCheck(t, fmt.Sprintf("%d, %d in the matrix %d", first, second, i), c, wanted)
			}
		}
	}
}

// Of many entries one that is not behind the one ahead, at each place.
func TestOrderAmongMany(t *testing.T) {
	s := numbers{state: 2}
	c := s.drawn(sketch{6, 7, 3, 20, 20, 20})
	for i, m := range matrices(&c) {
		for at := 1; at < 20; at++ {
			was := slices.Clone(*m)
			(*m)[at].Row, (*m)[at].Col = was[at-1].Row, was[at-1].Col
			wantCheck(t, fmt.Sprintf("twice the same, %d, %d", i, at), c, api.ErrIndex)
			copy(*m, was)
			(*m)[at-1], (*m)[at] = was[at], was[at-1]
			wantCheck(t, fmt.Sprintf("turned, %d, %d", i, at), c, api.ErrIndex)
			copy(*m, was)
			if was[at-1].Col > 0 {
				(*m)[at].Row, (*m)[at].Col = was[at-1].Row, was[at-1].Col-1
				wantCheck(t, fmt.Sprintf("a lesser column, %d, %d", i, at), c, api.ErrIndex)
			}
			copy(*m, was)
			if was[at-1].Row > 0 {
				(*m)[at].Row, (*m)[at].Col = was[at-1].Row-1, 6
				wantCheck(t, fmt.Sprintf("a lesser row, %d, %d", i, at), c, api.ErrIndex)
			}
			copy(*m, was)
		}
	}
	wantCheck(t, "as it was", c, api.OK)
}

// valued is a scalar's bytes, which need be none, and what is answered of them.
type valued struct {
	val    api.Scalar
	wanted api.Errno
}

func values() []valued {
	great := func(bits uint) *big.Int { return new(big.Int).Lsh(whole(1), bits) }
	most := new(big.Int).Sub(great(256), whole(1))
	l := []valued{{wanted: api.ErrZero}, {bytesOf(most), api.ErrField}}
	for _, k := range append(wholes(1, 2, 255, 256, math.MaxInt64), great(64), great(128), great(248), great(252), minus(1), minus(2), minus(256)) {
		l = append(l, valued{bytesOf(k), api.OK})
	}
	for _, n := range []int64{0, 1, 2, 256, math.MaxInt64} {
		l = append(l, valued{bytesOf(new(big.Int).Add(r, whole(n))), api.ErrField})
	}
	for _, k := range []*big.Int{great(253), great(254), great(255), new(big.Int).Add(great(255), whole(1)), new(big.Int).Lsh(r, 1), new(big.Int).Sub(most, whole(1))} {
		l = append(l, valued{bytesOf(k), api.ErrField})
	}
	return l
}

func TestValues(t *testing.T) {
	s := numbers{state: 3}
	drawn := s.drawn(sketch{3, 4, 2, 5, 6, 7})
	for _, x := range values() {
		for i := range 3 {
			c := square()
			(*matrices(&c)[i])[0].Val = x.val
			wantCheck(t, fmt.Sprintf("%x in the matrix %d", x.val, i), c, x.wanted)
			for at := range *matrices(&drawn)[i] {
				c := clone(drawn)
				(*matrices(&c)[i])[at].Val = x.val
				wantCheck(t, fmt.Sprintf("%x in the matrix %d at %d", x.val, i, at), c, x.wanted)
			}
		}
	}
}

// flaw is what an entry may be refused by.
type flaw struct {
	name   string
	wanted api.Errno
	spoil  func(m []api.Entry, at int)
}

// flaws are in the order in which they are answered, but that the first ones are as good.
func flaws() []flaw {
	return []flaw{
		{"a row", api.ErrIndex, func(m []api.Entry, at int) { m[at].Row = 6 }},
		{"a column", api.ErrIndex, func(m []api.Entry, at int) { m[at].Col = 7 }},
		{"the same place", api.ErrIndex, func(m []api.Entry, at int) {
			if at == 0 { // there is none ahead
				m[at].Row = math.MaxUint32
				return
			}
			m[at].Row, m[at].Col = m[at-1].Row, m[at-1].Col
		}},
		{"r", api.ErrField, func(m []api.Entry, at int) { m[at].Val = bytesOf(r) }},
		{"all bits", api.ErrField, func(m []api.Entry, at int) {
			m[at].Val = bytesOf(new(big.Int).Sub(new(big.Int).Lsh(whole(1), 256), whole(1)))
		}},
		{"0", api.ErrZero, func(m []api.Entry, at int) { m[at].Val = api.Scalar{} }},
	}
}

// Of two flaws in any entries the first one is answered; of those of one entry ErrIndex,
// ErrField, ErrZero, in this order.
func TestTwoFlaws(t *testing.T) {
	s := numbers{state: 4}
	whole := s.drawn(sketch{6, 7, 3, 4, 4, 4})
	spots := []int{0, 1, 2, 3, 4, 6, 7, 8, 10, 11}
	for _, i := range spots {
		for _, j := range spots {
			for n, first := range flaws() {
				for o, second := range flaws() {
					c := clone(whole)
					second.spoil(*matrices(&c)[j/4], j%4)
					first.spoil(*matrices(&c)[i/4], i%4)
					wanted := first.wanted
					if j < i || j == i && o < n {
						wanted = second.wanted
					}
					if i == j && (first.wanted == api.ErrField || first.wanted == api.ErrZero) && (second.wanted == api.ErrField || second.wanted == api.ErrZero) {
						wanted = first.wanted // the one was written over the other
					}
					what := fmt.Sprintf("%s at %d, %s at %d", first.name, i, second.name, j)
					if e := fault(c); e != wanted {
						t.Errorf("%s: the model: %v, not %v", what, e, wanted)
					}
					wantCheck(t, what, c, wanted)
				}
			}
		}
	}
}

// spoilt is a circuit with so many flaws of any kind.
func (s *numbers) spoilt(c api.Circuit, count int) api.Circuit {
	c = clone(c)
	for range count {
		m := matrices(&c)[s.below(3)]
		switch kind := s.below(12); {
		case kind == 0:
			*[]*uint32{&c.Rows, &c.Cols, &c.Inputs}[s.below(3)] = counts()[s.below(len(counts()))]
		case kind == 1 && s.below(4) == 0:
			*m = make([]api.Entry, api.MaxEntry+1)
		case len(*m) == 0:
			*m = append(*m, at(s.below(5), s.below(5), whole(int64(s.below(2)))))
		case kind < 4:
			i, j := s.below(len(*m)), s.below(len(*m))
			(*m)[i], (*m)[j] = (*m)[j], (*m)[i]
		case kind < 7:
			x := &(*m)[s.below(len(*m))]
			*[]*uint32{&x.Row, &x.Col}[s.below(2)] = uint32(s.below(8))
		default:
			(*m)[s.below(len(*m))].Val = values()[s.below(len(values()))].val
		}
	}
	return c
}

// Of any flaws it is what the model tells.
func TestAnyFlaws(t *testing.T) {
	s := numbers{state: 5}
	told := map[api.Errno]int{}
	for i := range 20000 {
		x := sketches()[6+i%12]
		c := s.spoilt(s.drawn(x), i%4)
		wanted := fault(c)
		told[wanted]++
		wantCheck(t, fmt.Sprint("the circuit ", i), c, wanted)
	}
	for _, e := range []api.Errno{api.OK, api.ErrArg, api.ErrLong, api.ErrIndex, api.ErrField, api.ErrZero} {
		if told[e] < 200 {
			t.Errorf("too few are %v: %v", e, told)
		}
	}
}
