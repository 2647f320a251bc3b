package r1cs_test

import (
	"encoding/binary"
	"math/big"
	"slices"
	"testing"

	"marlinspike/api"
	"marlinspike/fr"
	"marlinspike/r1cs"
)

// The chapter's words once more, apart from the program: numbers are the library's big
// ones.

// r is X^4 - X^2 + 1.
var r = func() *big.Int {
	square := new(big.Int).SetUint64(api.X)
	square.Mul(square, square)
	n := new(big.Int).Mul(square, square)
	return n.Sub(n, square).Add(n, big.NewInt(1))
}()

// whole is a small number.
func whole(n int64) *big.Int { return big.NewInt(n) }

// wholes are small ones.
func wholes(l ...int64) (ks []*big.Int) {
	for _, n := range l {
		ks = append(ks, whole(n))
	}
	return ks
}

// mod is the number from 0 to r - 1.
func mod(k *big.Int) *big.Int { return new(big.Int).Mod(k, r) }

// plus is a sum, times a product, both by r.
func plus(x, y *big.Int) *big.Int  { return mod(new(big.Int).Add(x, y)) }
func times(x, y *big.Int) *big.Int { return mod(new(big.Int).Mul(x, y)) }

// less is what is left of x without y, by r.
func less(x, y *big.Int) *big.Int { return mod(new(big.Int).Sub(x, y)) }

// minus is r less n.
func minus(n int64) *big.Int { return new(big.Int).Sub(r, whole(n)) }

// raised is x^i, by r.
func raised(x *big.Int, i int) *big.Int { return new(big.Int).Exp(x, whole(int64(i)), r) }

// bytesOf are a number's bytes, which need not be below r.
func bytesOf(k *big.Int) (s api.Scalar) {
	k.FillBytes(s[:])
	return s
}

// numberOf is the number of bytes.
func numberOf(s api.Scalar) *big.Int { return new(big.Int).SetBytes(s[:]) }

// el is the scalar of a number.
func el(k *big.Int) fr.El {
	x, e := fr.From(bytesOf(mod(k)))
	if e != api.OK {
		panic(e)
	}
	return x
}

// els are the scalars of numbers.
func els(l []*big.Int) []fr.El {
	all := make([]fr.El, len(l))
	for i, k := range l {
		all[i] = el(k)
	}
	return all
}

// backs are the numbers of scalars.
func backs(l []fr.El) (ks []*big.Int) {
	for _, x := range l {
		ks = append(ks, numberOf(x.Scalar()))
	}
	return ks
}

// all are what a list's things are.
func all[T, P any](l []T, part func(T) P) (ps []P) {
	for _, x := range l {
		ps = append(ps, part(x))
	}
	return ps
}

// at is an entry of a number.
func at(row, col int, val *big.Int) api.Entry {
	return api.Entry{Row: uint32(row), Col: uint32(col), Val: bytesOf(mod(val))}
}

// entries are some: of each the row, the column, and a small number.
func entries(l ...[3]int64) (m []api.Entry) {
	for _, x := range l {
		m = append(m, at(int(x[0]), int(x[1]), whole(x[2])))
	}
	return m
}

// matrices are a circuit's, to be written to.
func matrices(c *api.Circuit) []*[]api.Entry { return []*[]api.Entry{&c.A, &c.B, &c.C} }

// clone is a circuit in other memory.
func clone(c api.Circuit) api.Circuit {
	for _, m := range matrices(&c) {
		*m = slices.Clone(*m)
	}
	return c
}

// same tells whether two circuits are; an empty list may be nil.
func same(c, o api.Circuit) bool {
	return c.Rows == o.Rows && c.Cols == o.Cols && c.Inputs == o.Inputs &&
		slices.Equal(c.A, o.A) && slices.Equal(c.B, o.B) && slices.Equal(c.C, o.C)
}

// fault is what a circuit is refused by.
func fault(c api.Circuit) api.Errno {
	if c.Rows == 0 || c.Cols == 0 || c.Inputs == 0 || c.Rows > 1024 || c.Cols > 1024 || c.Inputs > c.Cols {
		return api.ErrArg
	}
	for _, m := range matrices(&c) {
		if len(*m) > 4096 {
			return api.ErrLong
		}
	}
	for _, m := range matrices(&c) {
		for i, x := range *m {
			if x.Row >= c.Rows || x.Col >= c.Cols {
				return api.ErrIndex
			}
			if i > 0 && x.Row*c.Cols+x.Col <= (*m)[i-1].Row*c.Cols+(*m)[i-1].Col {
				return api.ErrIndex
			}
			if k := numberOf(x.Val); k.Cmp(r) >= 0 {
				return api.ErrField
			} else if k.Sign() == 0 {
				return api.ErrZero
			}
		}
	}
	return api.OK
}

// sums are the rows' sums, each by itself.
func sums(m []api.Entry, rows int, z []*big.Int) []*big.Int {
	all := make([]*big.Int, rows)
	for i := range all {
		all[i] = whole(0)
	}
	for _, x := range m {
		all[x.Row] = plus(all[x.Row], times(numberOf(x.Val), z[x.Col]))
	}
	return all
}

// broken are the rows that do not hold of an assignment.
func broken(c api.Circuit, z []*big.Int) (l []int) {
	rows := int(c.Rows)
	a, b, p := sums(c.A, rows, z), sums(c.B, rows, z), sums(c.C, rows, z)
	for i := range rows {
		if times(a[i], b[i]).Cmp(p[i]) != 0 {
			l = append(l, i)
		}
	}
	return l
}

// answer is what Satisfied is to tell of a circuit and as many scalars as it has
// columns.
func answer(c api.Circuit, z []*big.Int) api.Errno {
	if mod(z[0]).Cmp(whole(1)) != 0 || len(broken(c, z)) > 0 {
		return api.ErrCheck
	}
	return api.OK
}

// head are the bytes ahead of all entries.
func head(numbers ...uint32) (b []byte) {
	for _, n := range numbers {
		b = binary.BigEndian.AppendUint16(b, uint16(n))
	}
	return b
}

// text are a circuit's bytes.
func text(c api.Circuit) []byte {
	b := head(c.Rows, c.Cols, c.Inputs, uint32(len(c.A)), uint32(len(c.B)), uint32(len(c.C)))
	for _, x := range slices.Concat(c.A, c.B, c.C) {
		b = append(b, head(x.Row, x.Col)...)
		b = append(b, x.Val[:]...)
	}
	return b
}

// parse is what Get is to tell of bytes.
func parse(b []byte) (api.Circuit, api.Errno) {
	if len(b) < 12 {
		return api.Circuit{}, api.ErrShort
	}
	var ns [6]uint32
	for i := range ns {
		ns[i] = uint32(b[2*i])*256 + uint32(b[2*i+1])
	}
	c := api.Circuit{Rows: ns[0], Cols: ns[1], Inputs: ns[2]}
	c.A, c.B, c.C = make([]api.Entry, ns[3]), make([]api.Entry, ns[4]), make([]api.Entry, ns[5])
	e := fault(c)
	if e == api.ErrArg || e == api.ErrLong {
		return api.Circuit{}, e
	}
	b = b[12:]
	switch count := int(ns[3] + ns[4] + ns[5]); {
	case len(b) < 36*count:
		return api.Circuit{}, api.ErrShort
	case len(b) > 36*count:
		return api.Circuit{}, api.ErrLong
	}
	for _, m := range matrices(&c) {
		for i := range *m {
			row, col := uint32(b[0])*256+uint32(b[1]), uint32(b[2])*256+uint32(b[3])
			(*m)[i] = api.Entry{Row: row, Col: col, Val: api.Scalar(b[4:36])}
			b = b[36:]
		}
	}
	if e := fault(c); e != api.OK {
		return api.Circuit{}, e
	}
	return c, api.OK
}

// wantCheck fails if Check does not tell this, or one of the calls that ask it
// something else.
func wantCheck(t *testing.T, what string, c api.Circuit, wanted api.Errno) {
	t.Helper()
	if e := r1cs.Check(c); e != wanted {
		t.Errorf("%s: %v, not %v", what, e, wanted)
	}
	if wanted == api.OK {
		return
	}
	if e := r1cs.Satisfied(c, nil); e != wanted {
		t.Errorf("%s: Satisfied: %v, not %v", what, e, wanted)
	}
	if b, e := r1cs.Bytes(c); e != wanted || len(b) != 0 {
		t.Errorf("%s: Bytes: %d bytes, %v, not %v", what, len(b), e, wanted)
	}
}

// wantSums fails if Apply does not tell just these.
func wantSums(t *testing.T, what string, m []api.Entry, rows int, z, wanted []*big.Int) {
	t.Helper()
	l, e := r1cs.Apply(m, rows, els(z))
	if e != api.OK || !slices.Equal(l, els(wanted)) {
		t.Errorf("%s: %v, %v, not %v", what, backs(l), e, wanted)
	}
}

// refuseApply fails if Apply does not answer this error, and nothing else.
func refuseApply(t *testing.T, what string, m []api.Entry, rows int, z []fr.El, wanted api.Errno) {
	t.Helper()
	if l, e := r1cs.Apply(m, rows, z); e != wanted || len(l) != 0 {
		t.Errorf("%s: %d sums, %v, not %v", what, len(l), e, wanted)
	}
}

// wantSatisfied fails if Satisfied does not tell this.
func wantSatisfied(t *testing.T, what string, c api.Circuit, z []*big.Int, wanted api.Errno) {
	t.Helper()
	if e := r1cs.Satisfied(c, els(z)); e != wanted {
		t.Errorf("%s: %v, not %v", what, e, wanted)
	}
}

// wantText fails if a circuit has not these bytes, or they are not those of it.
func wantText(t *testing.T, what string, c api.Circuit, b []byte) {
	t.Helper()
	if got, e := r1cs.Bytes(c); e != api.OK || !slices.Equal(got, b) {
		t.Errorf("%s: %x, %v, not %x", what, got, e, b)
	}
	if got, e := r1cs.Get(b); e != api.OK || !same(got, c) {
		t.Errorf("%s: %v, %v, not %v", what, got, e, c)
	}
}

// refuseGet fails if Get does not answer this error, and nothing else.
func refuseGet(t *testing.T, what string, b []byte, wanted api.Errno) {
	t.Helper()
	if c, e := r1cs.Get(b); e != wanted || !same(c, api.Circuit{}) {
		t.Errorf("%s: %v, %v, not %v", what, c, e, wanted)
	}
}

// numbers makes numbers for tests by a rule, so that every run has the same ones.
type numbers struct{ state uint64 }

func (s *numbers) word() uint64 {
	s.state += 0x9e3779b97f4a7c15
	z := s.state
	z = (z ^ z>>30) * 0xbf58476d1ce4e5b9
	z = (z ^ z>>27) * 0x94d049bb133111eb
	return z ^ z>>31
}

// below is a number from 0 to n - 1.
func (s *numbers) below(n int) int { return int(s.word() % uint64(n)) }

// big is one from 1 to r - 1: a great one, or one that is small, or nearly r.
func (s *numbers) big() *big.Int {
	switch s.below(6) {
	case 0:
		return whole(1)
	case 1:
		return whole(int64(1 + s.below(300)))
	case 2:
		return minus(int64(1 + s.below(300)))
	}
	n := new(big.Int)
	for range 5 {
		n.Lsh(n, 64).Or(n, new(big.Int).SetUint64(s.word()))
	}
	n.Mod(n, minus(1))
	return n.Add(n, whole(1))
}

// assignment are so many numbers, the first of which is 1; some are 0.
func (s *numbers) assignment(count int) (l []*big.Int) {
	for i := range count {
		switch {
		case i == 0:
			l = append(l, whole(1))
		case s.below(7) == 0:
			l = append(l, whole(0))
		default:
			l = append(l, s.big())
		}
	}
	return l
}

// matrix is one of so many entries.
func (s *numbers) matrix(rows, cols, count int) (m []api.Entry) {
	places := map[int]bool{}
	for len(places) < count {
		places[s.below(rows*cols)] = true
	}
	for place := range rows * cols {
		if places[place] {
			m = append(m, at(place/cols, place%cols, s.big()))
		}
	}
	return m
}

// sketch is what a circuit is to be like: how many rows, columns, inputs, and entries of
// A, B and C.
type sketch struct{ rows, cols, inputs, a, b, c int }

// drawn is a circuit of a sketch.
func (s *numbers) drawn(x sketch) api.Circuit {
	return api.Circuit{
		Rows: uint32(x.rows), Cols: uint32(x.cols), Inputs: uint32(x.inputs),
		A: s.matrix(x.rows, x.cols, x.a), B: s.matrix(x.rows, x.cols, x.b), C: s.matrix(x.rows, x.cols, x.c),
	}
}

// sketches are of several sizes, with the edges among them.
func sketches() []sketch {
	return []sketch{
		{1, 1, 1, 0, 0, 0}, {1, 1, 1, 1, 1, 1}, {1, 1, 1, 0, 1, 0}, {1, 3, 2, 1, 1, 1}, {1, 5, 5, 3, 2, 5}, {1, 6, 1, 6, 6, 6},
		{5, 1, 1, 5, 0, 2}, {4, 1, 1, 4, 4, 4}, {2, 2, 1, 2, 1, 3}, {2, 2, 2, 4, 4, 4}, {3, 4, 4, 0, 5, 6}, {3, 4, 1, 5, 0, 6},
		{3, 4, 2, 5, 6, 0}, {3, 4, 3, 0, 0, 7}, {5, 6, 3, 0, 0, 0}, {6, 5, 5, 30, 30, 30}, {7, 9, 3, 20, 11, 30}, {9, 7, 1, 5, 40, 8},
		{13, 3, 2, 20, 20, 20}, {2, 40, 40, 50, 3, 17}, {30, 20, 4, 100, 50, 70}, {31, 33, 33, 200, 300, 100},
	}
}

// greatSketches are those at the limits.
func greatSketches() []sketch {
	return []sketch{
		{1, 1024, 1, 1024, 700, 1}, {1, 1024, 1024, 3, 1024, 1024}, {1024, 1, 1, 1024, 1, 900}, {64, 64, 5, 4096, 4096, 4096},
		{1024, 1024, 1024, 4096, 0, 0}, {1024, 1024, 1, 0, 4096, 5}, {1024, 1024, 600, 4096, 4096, 4096},
	}
}

// solve is the same circuit, but for one more entry of C in some rows, or another one,
// so that an assignment satisfies it.
func (s *numbers) solve(c api.Circuit, z []*big.Int) api.Circuit {
	rows := int(c.Rows)
	a, b := sums(c.A, rows, z), sums(c.B, rows, z)
	places := make([]map[int]*big.Int, rows)
	for i := range places {
		places[i] = map[int]*big.Int{}
	}
	for _, x := range c.C {
		places[x.Row][int(x.Col)] = numberOf(x.Val)
	}
	c.C = nil
	for i, row := range places {
		col := s.below(len(z))
		for mod(z[col]).Sign() == 0 {
			col = s.below(len(z))
		}
		lacks := times(a[i], b[i])
		delete(row, col)
		for j, k := range row {
			lacks = less(lacks, times(k, z[j]))
		}
		if lacks.Sign() != 0 {
			row[col] = times(lacks, new(big.Int).ModInverse(z[col], r))
		}
		for j := range z {
			if row[j] != nil {
				c.C = append(c.C, at(i, j, row[j]))
			}
		}
	}
	return c
}

// solved is a circuit of a sketch, and what satisfies it.
func (s *numbers) solved(x sketch) (api.Circuit, []*big.Int) {
	c, z := s.drawn(x), s.assignment(x.cols)
	return s.solve(c, z), z
}

// square is x x = y, of 1, y, x.
func square() api.Circuit {
	return api.Circuit{Rows: 1, Cols: 3, Inputs: 2, A: entries([3]int64{0, 2, 1}), B: entries([3]int64{0, 2, 1}), C: entries([3]int64{0, 1, 1})}
}

// cube is x x x + x + 5 = y, of 1, y, x, x x, x x x.
func cube() api.Circuit {
	return api.Circuit{
		Rows: 3, Cols: 5, Inputs: 2,
		A: entries([3]int64{0, 2, 1}, [3]int64{1, 3, 1}, [3]int64{2, 0, 5}, [3]int64{2, 2, 1}, [3]int64{2, 4, 1}),
		B: entries([3]int64{0, 2, 1}, [3]int64{1, 2, 1}, [3]int64{2, 0, 1}),
		C: entries([3]int64{0, 3, 1}, [3]int64{1, 4, 1}, [3]int64{2, 1, 1}),
	}
}
