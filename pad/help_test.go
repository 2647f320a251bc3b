package pad_test

import (
	"fmt"
	"maps"
	"math/big"
	"math/bits"
	"slices"
	"testing"

	"marlinspike/api"
	"marlinspike/fr"
	"marlinspike/pad"
)

// The chapter's words once more, apart from the program: numbers are the library's big
// ones.

// r is X^4 - X^2 + 1.
var r = func() *big.Int {
	square := new(big.Int).SetUint64(api.X)
	square.Mul(square, square)
	n := new(big.Int).Mul(square, square)
	return n.Sub(n, square).Add(n, big.NewInt(1))
}()

// whole is a small number.
func whole(n int64) *big.Int { return big.NewInt(n) }

// wholes are small ones.
func wholes(l ...int64) (ks []*big.Int) {
	for _, n := range l {
		ks = append(ks, whole(n))
	}
	return ks
}

// mod is the number from 0 to r - 1.
func mod(k *big.Int) *big.Int { return new(big.Int).Mod(k, r) }

// plus is a sum, times a product, both by r.
func plus(x, y *big.Int) *big.Int  { return mod(new(big.Int).Add(x, y)) }
func times(x, y *big.Int) *big.Int { return mod(new(big.Int).Mul(x, y)) }

// less is what is left of x without y, by r.
func less(x, y *big.Int) *big.Int { return mod(new(big.Int).Sub(x, y)) }

// minus is r less n.
func minus(n int64) *big.Int { return new(big.Int).Sub(r, whole(n)) }

// raised is x^i, by r.
func raised(x *big.Int, i int) *big.Int { return new(big.Int).Exp(x, whole(int64(i)), r) }

// bytesOf are a number's bytes, which need not be below r.
func bytesOf(k *big.Int) (s api.Scalar) {
	k.FillBytes(s[:])
	return s
}

// numberOf is the number of bytes.
func numberOf(s api.Scalar) *big.Int { return new(big.Int).SetBytes(s[:]) }

// el is the scalar of a number.
func el(k *big.Int) fr.El {
	x, e := fr.From(bytesOf(mod(k)))
	if e != api.OK {
		panic(e)
	}
	return x
}

// els are the scalars of numbers.
func els(l []*big.Int) []fr.El {
	all := make([]fr.El, len(l))
	for i, k := range l {
		all[i] = el(k)
	}
	return all
}

// backs are the numbers of scalars.
func backs(l []fr.El) (ks []*big.Int) {
	for _, x := range l {
		ks = append(ks, numberOf(x.Scalar()))
	}
	return ks
}

// all are what a list's things are.
func all[T, P any](l []T, part func(T) P) (ps []P) {
	for _, x := range l {
		ps = append(ps, part(x))
	}
	return ps
}

// at is an entry of a number.
func at(row, col int, val *big.Int) api.Entry {
	return api.Entry{Row: uint32(row), Col: uint32(col), Val: bytesOf(mod(val))}
}

// entries are some: of each the row, the column, and a small number.
func entries(l ...[3]int64) (m []api.Entry) {
	for _, x := range l {
		m = append(m, at(int(x[0]), int(x[1]), whole(x[2])))
	}
	return m
}

// matrices are a circuit's, to be written to.
func matrices(c *api.Circuit) []*[]api.Entry { return []*[]api.Entry{&c.A, &c.B, &c.C} }

// clone is a circuit in other memory.
func clone(c api.Circuit) api.Circuit {
	for _, m := range matrices(&c) {
		*m = slices.Clone(*m)
	}
	return c
}

// fault is what a circuit is refused by.
func fault(c api.Circuit) api.Errno {
	if c.Rows == 0 || c.Cols == 0 || c.Inputs == 0 || c.Rows > 1024 || c.Cols > 1024 || c.Inputs > c.Cols {
		return api.ErrArg
	}
	for _, m := range matrices(&c) {
		if len(*m) > 4096 {
			return api.ErrLong
		}
	}
	for _, m := range matrices(&c) {
		for i, x := range *m {
			if x.Row >= c.Rows || x.Col >= c.Cols {
				return api.ErrIndex
			}
			if i > 0 && x.Row*c.Cols+x.Col <= (*m)[i-1].Row*c.Cols+(*m)[i-1].Col {
				return api.ErrIndex
			}
			if k := numberOf(x.Val); k.Cmp(r) >= 0 {
				return api.ErrField
			} else if k.Sign() == 0 {
				return api.ErrZero
			}
		}
	}
	return api.OK
}

// sums are the rows' sums, each by itself.
func sums(m []api.Entry, rows int, z []*big.Int) []*big.Int {
	all := make([]*big.Int, rows)
	for i := range all {
		all[i] = whole(0)
	}
	for _, x := range m {
		all[x.Row] = plus(all[x.Row], times(numberOf(x.Val), z[x.Col]))
	}
	return all
}

// broken are the rows that do not hold of an assignment.
func broken(c api.Circuit, z []*big.Int) (l []int) {
	rows := int(c.Rows)
	a, b, p := sums(c.A, rows, z), sums(c.B, rows, z), sums(c.C, rows, z)
	for i := range rows {
		if times(a[i], b[i]).Cmp(p[i]) != 0 {
			l = append(l, i)
		}
	}
	return l
}

// leastFrom is the least power of 2, which is a number of one bit, from a number on.
func leastFrom(n int) int {
	for bits.OnesCount(uint(n)) != 1 {
		n++
	}
	return n
}

// shapeOf is what Of is to tell of a circuit: H's places are parted into those of X and
// the others, and each entry is laid at its row and place, which are then gone through.
func shapeOf(c api.Circuit) pad.Shape {
	rows, cols, inputs := int(c.Rows), int(c.Cols), int(c.Inputs)
	x := leastFrom(inputs)
	n := leastFrom(max(rows, x+cols-inputs, 2*x))
	s := pad.Shape{N: n, X: x, M: leastFrom(max(2, len(c.A), len(c.B), len(c.C))), Inputs: inputs}
	var on, off []int
	for place := range n {
		if place*x%n == 0 {
			on = append(on, place)
		} else {
			off = append(off, place)
		}
	}
	s.Places = slices.Concat(on[:inputs], off[:cols-inputs])
	for i, m := range matrices(&c) {
		vals := map[int]api.Scalar{}
		for _, x := range *m {
			vals[int(x.Row)*n+s.Places[x.Col]] = x.Val
		}
		for _, at := range slices.Sorted(maps.Keys(vals)) {
			s.Rows[i] = append(s.Rows[i], api.Entry{Row: uint32(at / n), Col: uint32(at % n), Val: vals[at]})
		}
	}
	return s
}

// spreadOf is what Spread is to tell.
func spreadOf(s pad.Shape, z []*big.Int) (l []*big.Int) {
	for place := range s.N {
		k := whole(0)
		if j := slices.Index(s.Places, place); j >= 0 {
			k = z[j]
		}
		l = append(l, k)
	}
	return l
}

// sameShape tells whether two shapes are; an empty list may be nil.
func sameShape(s, o pad.Shape) bool {
	is := s.N == o.N && s.X == o.X && s.M == o.M && s.Inputs == o.Inputs && slices.Equal(s.Places, o.Places)
	for i := range 3 {
		is = is && slices.Equal(s.Rows[i], o.Rows[i])
	}
	return is
}

// cloneShape is a shape in other memory.
func cloneShape(s pad.Shape) pad.Shape {
	s.Places = slices.Clone(s.Places)
	for i := range s.Rows {
		s.Rows[i] = slices.Clone(s.Rows[i])
	}
	return s
}

// brief is a text of a circuit or a shape, but of its sizes alone if it is great.
func brief(x any) string {
	text := fmt.Sprint(x)
	switch x := x.(type) {
	case api.Circuit:
		if len(text) > 3000 {
			return fmt.Sprint("one of ", x.Rows, x.Cols, x.Inputs, len(x.A), len(x.B), len(x.C))
		}
	case pad.Shape:
		if len(text) > 3000 {
			return fmt.Sprint("one of ", x.N, x.X, x.M, x.Inputs, len(x.Places), len(x.Rows[0]), len(x.Rows[1]), len(x.Rows[2]))
		}
	}
	return text
}

// padOf is what Of tells, spread what Spread tells, applied what Apply tells.
func padOf(t *testing.T, c api.Circuit) pad.Shape {
	t.Helper()
	s, e := pad.Of(c)
	if e != api.OK {
		t.Fatalf("%s: %v", brief(c), e)
	}
	return s
}

func spread(t *testing.T, s pad.Shape, z []fr.El) []fr.El {
	t.Helper()
	l, e := s.Spread(z)
	if e != api.OK {
		t.Fatalf("%d scalars of %s: %v", len(z), brief(s), e)
	}
	return l
}

func applied(t *testing.T, s pad.Shape, k int, z []fr.El) []fr.El {
	t.Helper()
	l, e := s.Apply(k, z)
	if e != api.OK {
		t.Fatalf("%d, %d scalars of %s: %v", k, len(z), brief(s), e)
	}
	return l
}

// wantShape fails if Of does not tell just this.
func wantShape(t *testing.T, what string, c api.Circuit, wanted pad.Shape) {
	t.Helper()
	if s, e := pad.Of(c); e != api.OK || !sameShape(s, wanted) {
		t.Errorf("%s: %s, %v, not %s", what, brief(s), e, brief(wanted))
	}
}

// refuseOf fails if Of does not answer this error, and nothing else.
func refuseOf(t *testing.T, what string, c api.Circuit, wanted api.Errno) {
	t.Helper()
	if s, e := pad.Of(c); e != wanted || !sameShape(s, pad.Shape{}) {
		t.Errorf("%s: %s, %v, not %v", what, brief(s), e, wanted)
	}
}

// wantSpread fails if Spread does not tell just these.
func wantSpread(t *testing.T, what string, s pad.Shape, z, wanted []*big.Int) {
	t.Helper()
	l, e := s.Spread(els(z))
	if e != api.OK || !slices.Equal(l, els(wanted)) {
		t.Errorf("%s: %v, %v, not %v", what, backs(l), e, wanted)
	}
}

// refuseSpread fails if Spread does not answer ErrArg, and nothing else.
func refuseSpread(t *testing.T, what string, s pad.Shape, z []fr.El) {
	t.Helper()
	if l, e := s.Spread(z); e != api.ErrArg || len(l) != 0 {
		t.Errorf("%s: %d scalars, %v, not %v", what, len(l), e, api.ErrArg)
	}
}

// wantSums fails if Apply does not tell just these.
func wantSums(t *testing.T, what string, s pad.Shape, k int, z, wanted []*big.Int) {
	t.Helper()
	l, e := s.Apply(k, els(z))
	if e != api.OK || !slices.Equal(l, els(wanted)) {
		t.Errorf("%s: %v, %v, not %v", what, backs(l), e, wanted)
	}
}

// refuseApply fails if Apply does not answer this error, and nothing else.
func refuseApply(t *testing.T, what string, s pad.Shape, k int, z []fr.El, wanted api.Errno) {
	t.Helper()
	if l, e := s.Apply(k, z); e != wanted || len(l) != 0 {
		t.Errorf("%s: %d sums, %v, not %v", what, len(l), e, wanted)
	}
}

// wantScalars fails if two lists are not the same.
func wantScalars(t *testing.T, what string, l, wanted []fr.El) {
	t.Helper()
	if !slices.Equal(l, wanted) {
		t.Errorf("%s: %v, not %v", what, backs(l), backs(wanted))
	}
}

// numbers makes numbers for tests by a rule, so that every run has the same ones.
type numbers struct{ state uint64 }

func (s *numbers) word() uint64 {
	s.state += 0x9e3779b97f4a7c15
	z := s.state
	z = (z ^ z>>30) * 0xbf58476d1ce4e5b9
	z = (z ^ z>>27) * 0x94d049bb133111eb
	return z ^ z>>31
}

// below is a number from 0 to n - 1.
func (s *numbers) below(n int) int { return int(s.word() % uint64(n)) }

// big is one from 1 to r - 1: a great one, or one that is small, or nearly r.
func (s *numbers) big() *big.Int {
	switch s.below(6) {
	case 0:
		return whole(1)
	case 1:
		return whole(int64(1 + s.below(300)))
	case 2:
		return minus(int64(1 + s.below(300)))
	}
	n := new(big.Int)
	for range 5 {
		n.Lsh(n, 64).Or(n, new(big.Int).SetUint64(s.word()))
	}
	n.Mod(n, minus(1))
	return n.Add(n, whole(1))
}

// assignment are so many numbers, the first of which is 1; some are 0.
func (s *numbers) assignment(count int) (l []*big.Int) {
	for i := range count {
		switch {
		case i == 0:
			l = append(l, whole(1))
		case s.below(7) == 0:
			l = append(l, whole(0))
		default:
			l = append(l, s.big())
		}
	}
	return l
}

// matrix is one of so many entries.
func (s *numbers) matrix(rows, cols, count int) (m []api.Entry) {
	places := map[int]bool{}
	for len(places) < count {
		places[s.below(rows*cols)] = true
	}
	for place := range rows * cols {
		if places[place] {
			m = append(m, at(place/cols, place%cols, s.big()))
		}
	}
	return m
}

// sketch is what a circuit is to be like: how many rows, columns, inputs, and entries of
// A, B and C.
type sketch struct{ rows, cols, inputs, a, b, c int }

// drawn is a circuit of a sketch.
func (s *numbers) drawn(x sketch) api.Circuit {
	return api.Circuit{
		Rows: uint32(x.rows), Cols: uint32(x.cols), Inputs: uint32(x.inputs),
		A: s.matrix(x.rows, x.cols, x.a), B: s.matrix(x.rows, x.cols, x.b), C: s.matrix(x.rows, x.cols, x.c),
	}
}

// sketches are of several sizes, with the edges among them: of inputs, of rows, and of
// how many entries there are.
func sketches() []sketch {
	return []sketch{
		{1, 1, 1, 0, 0, 0}, {1, 1, 1, 1, 1, 1}, {1, 1, 1, 0, 1, 0}, {1, 3, 2, 1, 1, 1}, {1, 5, 5, 3, 2, 5}, {1, 6, 1, 6, 6, 6},
		{5, 1, 1, 5, 0, 2}, {4, 1, 1, 4, 4, 4}, {2, 2, 1, 2, 1, 3}, {2, 2, 2, 4, 4, 4}, {3, 4, 4, 0, 5, 6}, {3, 4, 1, 5, 0, 6},
		{3, 4, 2, 5, 6, 0}, {3, 4, 3, 0, 0, 7}, {5, 6, 3, 0, 0, 0}, {6, 5, 5, 30, 30, 30}, {7, 9, 3, 20, 11, 30}, {9, 7, 1, 5, 40, 8},
		{8, 9, 7, 8, 9, 7}, {8, 9, 8, 9, 7, 8}, {8, 9, 9, 7, 8, 9}, {15, 12, 4, 16, 2, 1}, {16, 12, 4, 1, 17, 2}, {17, 12, 4, 2, 1, 15},
		{3, 16, 1, 40, 48, 3}, {3, 17, 1, 1, 51, 3}, {3, 20, 4, 60, 33, 32}, {3, 21, 4, 63, 33, 32},
		{13, 3, 2, 20, 20, 20}, {2, 40, 40, 50, 3, 17}, {30, 20, 4, 100, 50, 70}, {31, 33, 33, 200, 300, 100}, {70, 40, 17, 128, 129, 127},
	}
}

// greatSketches are those at the limits.
func greatSketches() []sketch {
	return []sketch{
		{1, 1024, 1, 1024, 700, 1}, {1, 1024, 1024, 3, 1024, 1024}, {1024, 1, 1, 1024, 1, 900}, {64, 64, 5, 4096, 4096, 4096},
		{1024, 1024, 1024, 4096, 0, 0}, {1024, 1024, 1, 0, 4096, 5}, {1024, 1024, 600, 4096, 4096, 4096}, {1024, 1024, 513, 2049, 2048, 4095},
		{1024, 1024, 2, 5, 6, 7}, {1024, 1024, 3, 5, 6, 7}, {1024, 1023, 512, 9, 2, 2}, {900, 1024, 512, 2, 2, 2049},
	}
}

// solve is the same circuit, but for one more entry of C in some rows, or another one,
// so that an assignment satisfies it.
func (s *numbers) solve(c api.Circuit, z []*big.Int) api.Circuit {
	rows := int(c.Rows)
	a, b := sums(c.A, rows, z), sums(c.B, rows, z)
	places := make([]map[int]*big.Int, rows)
	for i := range places {
		places[i] = map[int]*big.Int{}
	}
	for _, x := range c.C {
		places[x.Row][int(x.Col)] = numberOf(x.Val)
	}
	c.C = nil
	for i, row := range places {
		col := s.below(len(z))
		for mod(z[col]).Sign() == 0 {
			col = s.below(len(z))
		}
		lacks := times(a[i], b[i])
		delete(row, col)
		for j, k := range row {
			lacks = less(lacks, times(k, z[j]))
		}
		if lacks.Sign() != 0 {
			row[col] = times(lacks, new(big.Int).ModInverse(z[col], r))
		}
		for j := range z {
			if row[j] != nil {
				c.C = append(c.C, at(i, j, row[j]))
			}
		}
	}
	return c
}

// solved is a circuit of a sketch, and what satisfies it.
func (s *numbers) solved(x sketch) (api.Circuit, []*big.Int) {
	c, z := s.drawn(x), s.assignment(x.cols)
	return s.solve(c, z), z
}

// square is x x = y, of 1, y, x.
func square() api.Circuit {
	return api.Circuit{Rows: 1, Cols: 3, Inputs: 2, A: entries([3]int64{0, 2, 1}), B: entries([3]int64{0, 2, 1}), C: entries([3]int64{0, 1, 1})}
}

// cube is x x x + x + 5 = y, of 1, y, x, x x, x x x: the last row is x x x + x, times 1,
// that is y - 5.
func cube() api.Circuit {
	return api.Circuit{
		Rows: 3, Cols: 5, Inputs: 2,
		A: entries([3]int64{0, 2, 1}, [3]int64{1, 3, 1}, [3]int64{2, 2, 1}, [3]int64{2, 4, 1}),
		B: entries([3]int64{0, 2, 1}, [3]int64{1, 2, 1}, [3]int64{2, 0, 1}),
		C: entries([3]int64{0, 3, 1}, [3]int64{1, 4, 1}, [3]int64{2, 0, -5}, [3]int64{2, 1, 1}),
	}
}

// knotted is of rows whose places stand in another order than their columns: 1 and two
// more inputs lie at 0, 2, 4 of 8, the other four at 1, 3, 5, 7.
func knotted() api.Circuit {
	return api.Circuit{
		Rows: 2, Cols: 7, Inputs: 3,
		A: entries([3]int64{0, 0, 1}, [3]int64{0, 1, 2}, [3]int64{0, 2, 3}, [3]int64{0, 3, 4}, [3]int64{0, 4, 5}, [3]int64{0, 5, 6}, [3]int64{0, 6, 7}, [3]int64{1, 1, 8}, [3]int64{1, 6, 9}),
		B: entries([3]int64{1, 0, 1}, [3]int64{1, 2, 2}, [3]int64{1, 3, 3}),
	}
}
