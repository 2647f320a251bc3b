package index_test

import (
	"fmt"
	"math/big"
	"slices"
	"testing"

	"marlinspike/api"
	"marlinspike/fr"
	"marlinspike/index"
	"marlinspike/pad"
)

// The chapter's words once more, apart from the program: numbers are the library's big
// ones.

// r is X^4 - X^2 + 1.
var r = func() *big.Int {
	square := new(big.Int).SetUint64(api.X)
	square.Mul(square, square)
	n := new(big.Int).Mul(square, square)
	return n.Sub(n, square).Add(n, big.NewInt(1))
}()

// whole is a small number.
func whole(n int64) *big.Int { return big.NewInt(n) }

// wholes are small ones.
func wholes(l ...int64) (ks []*big.Int) {
	for _, n := range l {
		ks = append(ks, whole(n))
	}
	return ks
}

// mod is the number from 0 to r - 1.
func mod(k *big.Int) *big.Int { return new(big.Int).Mod(k, r) }

// plus is a sum, times a product, less a difference, per a quotient, all by r.
func plus(x, y *big.Int) *big.Int { return mod(new(big.Int).Add(x, y)) }
func less(x, y *big.Int) *big.Int { return mod(new(big.Int).Sub(x, y)) }
func per(x, y *big.Int) *big.Int  { return times(x, new(big.Int).ModInverse(y, r)) }

func times(l ...*big.Int) *big.Int {
	product := whole(1)
	for _, x := range l {
		product = mod(product.Mul(product, x))
	}
	return product
}

// minus is r less n.
func minus(n int64) *big.Int { return new(big.Int).Sub(r, whole(n)) }

// raised is x^i, by r.
func raised(x *big.Int, i int) *big.Int { return new(big.Int).Exp(x, whole(int64(i)), r) }

// same tells whether two numbers are, by r.
func same(x, y *big.Int) bool { return less(x, y).Sign() == 0 }

// bytesOf are a number's bytes, which need not be below r.
func bytesOf(k *big.Int) (s api.Scalar) {
	k.FillBytes(s[:])
	return s
}

// numberOf is the number of bytes.
func numberOf(s api.Scalar) *big.Int { return new(big.Int).SetBytes(s[:]) }

// el is the scalar of a number.
func el(k *big.Int) fr.El {
	x, e := fr.From(bytesOf(mod(k)))
	if e != api.OK {
		panic(e)
	}
	return x
}

// els are the scalars of numbers.
func els(l []*big.Int) []fr.El {
	all := make([]fr.El, len(l))
	for i, k := range l {
		all[i] = el(k)
	}
	return all
}

// back is the number of a scalar.
func back(x fr.El) *big.Int { return numberOf(x.Scalar()) }

// backs are the numbers of scalars.
func backs(l []fr.El) (ks []*big.Int) {
	for _, x := range l {
		ks = append(ks, back(x))
	}
	return ks
}

// three are the scalars of three numbers.
func three(e [3]*big.Int) [3]fr.El { return [3]fr.El(els(e[:])) }

// nonSquare is the least number from 2 on that is no square by r.
var nonSquare = func() *big.Int {
	half := new(big.Int).Rsh(r, 1)
	for n := int64(2); ; n++ {
		if new(big.Int).Exp(whole(n), half, r).Cmp(whole(1)) != 0 {
			return whole(n)
		}
	}
}()

// elementsOf are those of the domain of n, in order.
func elementsOf(n int) []*big.Int {
	exponent := new(big.Int).Div(minus(1), whole(int64(n)))
	g := new(big.Int).Exp(nonSquare, exponent, r)
	l := []*big.Int{whole(1)}
	for len(l) < n {
		l = append(l, times(l[len(l)-1], g))
	}
	return l
}

// v is z^n - 1.
func v(n int, z *big.Int) *big.Int { return less(raised(z, n), whole(1)) }

// u is the quotient of differences; of two alike n y^(n - 1).
func u(n int, y, z *big.Int) *big.Int {
	if same(y, z) {
		return times(whole(int64(n)), raised(y, n-1))
	}
	return per(less(v(n, y), v(n, z)), less(y, z))
}

// worth is what a polynomial is at z.
func worth(p []*big.Int, z *big.Int) *big.Int {
	sum := whole(0)
	for i := range p {
		sum = mod(sum.Mul(sum, z).Add(sum, p[len(p)-1-i]))
	}
	return sum
}

// matrix are the values of row, col and val of one matrix at K's elements.
type matrix struct{ row, col, val []*big.Int }

// matrixOf are those of padded entries.
func matrixOf(n, m int, entries []api.Entry) (x matrix) {
	h := elementsOf(n)
	for k := range m {
		if k >= len(entries) {
			x.row, x.col, x.val = append(x.row, whole(1)), append(x.col, whole(1)), append(x.val, whole(0))
			continue
		}
		row, col := h[entries[k].Row], h[entries[k].Col]
		val := per(numberOf(entries[k].Val), u(n, col, col))
		x.row, x.col, x.val = append(x.row, row), append(x.col, col), append(x.val, val)
	}
	return x
}

// matricesOf are those of a shape.
func matricesOf(s pad.Shape) (l [3]matrix) {
	for i := range l {
		l[i] = matrixOf(s.N, s.M, s.Rows[i])
	}
	return l
}

// valuesOf are those of an Index, which may be any: its polynomials at K's elements.
func valuesOf(x index.Index) (l [3]matrix) {
	k := elementsOf(x.M)
	at := func(p []fr.El) (ks []*big.Int) {
		ns := backs(p)
		for _, z := range k {
			ks = append(ks, worth(ns, z))
		}
		return ks
	}
	for i := range l {
		l[i] = matrix{at(x.Row[i]), at(x.Col[i]), at(x.Val[i])}
	}
	return l
}

// sumOf is the sum at a and b.
func sumOf(n int, l [3]matrix, e [3]*big.Int, a, b *big.Int) *big.Int {
	sum := whole(0)
	for i, x := range l {
		for k, val := range x.val {
			if val.Sign() != 0 {
				sum = plus(sum, times(e[i], val, u(n, a, x.row[k]), u(n, b, x.col[k])))
			}
		}
	}
	return sum
}

// polyOf is the polynomial of the sum, in form. u(y, z) is the sum of y^i z^(n - 1 - i).
func polyOf(n int, l [3]matrix, e [3]*big.Int, a *big.Int) []*big.Int {
	p := make([]*big.Int, n)
	for i := range p {
		p[i] = whole(0)
	}
	for i, x := range l {
		for k, val := range x.val {
			power := times(e[i], val, u(n, a, x.row[k]))
			for j := 0; j < n && power.Sign() != 0; j++ {
				p[n-1-j] = plus(p[n-1-j], power)
				power = times(power, x.col[k])
			}
		}
	}
	for len(p) > 0 && p[len(p)-1].Sign() == 0 {
		p = p[:len(p)-1]
	}
	return p
}

// entry is one of a number.
func entry(row, col int, val *big.Int) api.Entry {
	return api.Entry{Row: uint32(row), Col: uint32(col), Val: bytesOf(mod(val))}
}

// entries are some: of each the row, the place, and a small number.
func entries(l ...[3]int64) (m []api.Entry) {
	for _, x := range l {
		m = append(m, entry(int(x[0]), int(x[1]), whole(x[2])))
	}
	return m
}

// padded is a circuit laid on domains.
func padded(t *testing.T, c api.Circuit) pad.Shape {
	t.Helper()
	s, e := pad.Of(c)
	if e != api.OK {
		t.Fatalf("%v: %v", c, e)
	}
	return s
}

// square is x x = y, of 1, y, x.
func square() api.Circuit {
	x, y := entries([3]int64{0, 2, 1}), entries([3]int64{0, 1, 1})
	return api.Circuit{Rows: 1, Cols: 3, Inputs: 2, A: x, B: slices.Clone(x), C: y}
}

// cube is x x x + x + 5 = y, of 1, y, x, x x, x x x: the last row is x x x + x, times 1,
// that is y - 5.
func cube() api.Circuit {
	return api.Circuit{
		Rows: 3, Cols: 5, Inputs: 2,
		A: entries([3]int64{0, 2, 1}, [3]int64{1, 3, 1}, [3]int64{2, 2, 1}, [3]int64{2, 4, 1}),
		B: entries([3]int64{0, 2, 1}, [3]int64{1, 2, 1}, [3]int64{2, 0, 1}),
		C: entries([3]int64{0, 3, 1}, [3]int64{1, 4, 1}, [3]int64{2, 0, -5}, [3]int64{2, 1, 1}),
	}
}

// cloneShape is a shape in other memory.
func cloneShape(s pad.Shape) pad.Shape {
	s.Places = slices.Clone(s.Places)
	for i := range s.Rows {
		s.Rows[i] = slices.Clone(s.Rows[i])
	}
	return s
}

// lists are an Index's, by matrices.
func lists(x *index.Index) (l []*[]fr.El) {
	for i := range 3 {
		l = append(l, &x.Row[i], &x.Col[i], &x.Val[i])
	}
	return l
}

// cloneIndex is an Index in other memory.
func cloneIndex(x index.Index) index.Index {
	for _, p := range lists(&x) {
		*p = slices.Clone(*p)
	}
	return x
}

// sameIndex tells whether two are; an empty list may be nil.
func sameIndex(x, o index.Index) bool {
	is := x.N == o.N && x.X == o.X && x.M == o.M
	others := lists(&o)
	for i, p := range lists(&x) {
		is = is && slices.Equal(*p, *others[i])
	}
	return is
}

// brief is a text of a shape or an Index, but of its sizes alone if it is great.
func brief(x any) string {
	text := fmt.Sprint(x)
	if len(text) <= 3000 {
		return text
	}
	switch x := x.(type) {
	case pad.Shape:
		return fmt.Sprint("a shape of ", x.N, x.X, x.M, len(x.Rows[0]), len(x.Rows[1]), len(x.Rows[2]))
	case index.Index:
		return fmt.Sprint("an index of ", x.N, x.X, x.M)
	}
	return text[:3000]
}

// indexOf is what Of tells, summed what Sum tells, polyAt what Poly tells.
func indexOf(t *testing.T, s pad.Shape) index.Index {
	t.Helper()
	x, e := index.Of(s)
	if e != api.OK {
		t.Fatalf("%s: %v", brief(s), e)
	}
	return x
}

func summed(t *testing.T, x index.Index, e [3]fr.El, a, b fr.El) fr.El {
	t.Helper()
	sum, fault := x.Sum(e, a, b)
	if fault != api.OK {
		t.Fatalf("%s: %v", brief(x), fault)
	}
	return sum
}

func polyAt(t *testing.T, x index.Index, e [3]fr.El, a fr.El) []fr.El {
	t.Helper()
	p, fault := x.Poly(e, a)
	if fault != api.OK {
		t.Fatalf("%s: %v", brief(x), fault)
	}
	return p
}

// wantInForm fails if a polynomial ends in 0, or has more than so many scalars.
func wantInForm(t *testing.T, what string, p []fr.El, most int) {
	t.Helper()
	if len(p) > most || len(p) > 0 && p[len(p)-1] == (fr.El{}) {
		t.Errorf("%s: not in form, or more than %d scalars: %v", what, most, backs(p))
	}
}

// wantValues fails if a polynomial is not that of at most as many scalars as there are
// values, which is worth them on K. If K is great, it asks at some of its elements, as
// all of them take long.
func wantValues(t *testing.T, what string, p []fr.El, k, values []*big.Int) {
	t.Helper()
	wantInForm(t, what, p, len(k))
	ns, some := backs(p), 1+len(k)/300*20
	for i, z := range k {
		if i%some > 1 && i < len(k)-3 {
			continue
		}
		if got := worth(ns, z); !same(got, values[i]) {
			t.Errorf("%s: at the element %d it is worth %v, not %v", what, i, got, values[i])
			return
		}
	}
}

// wantIndex fails if Of does not tell the shape's index.
func wantIndex(t *testing.T, what string, s pad.Shape) {
	t.Helper()
	x, e := index.Of(s)
	if e != api.OK || x.N != s.N || x.X != s.X || x.M != s.M {
		t.Errorf("%s: %d, %d, %d, %v, not %d, %d, %d", what, x.N, x.X, x.M, e, s.N, s.X, s.M)
		return
	}
	k := elementsOf(s.M)
	for i, m := range matricesOf(s) {
		wantValues(t, fmt.Sprint(what, ", row of ", i), x.Row[i], k, m.row)
		wantValues(t, fmt.Sprint(what, ", col of ", i), x.Col[i], k, m.col)
		wantValues(t, fmt.Sprint(what, ", val of ", i), x.Val[i], k, m.val)
	}
}

// refuseOf fails if Of does not answer this error, and nothing else.
func refuseOf(t *testing.T, what string, s pad.Shape, wanted api.Errno) {
	t.Helper()
	if x, e := index.Of(s); e != wanted || !sameIndex(x, index.Index{}) {
		t.Errorf("%s: %s, %v, not %v", what, brief(x), e, wanted)
	}
}

// refuseSums fails if Sum and Poly do not answer ErrSize, and nothing else.
func refuseSums(t *testing.T, what string, x index.Index) {
	t.Helper()
	e := [3]fr.El{fr.Of(1), fr.Of(2), fr.Of(3)}
	if sum, fault := x.Sum(e, fr.Of(4), fr.Of(5)); fault != api.ErrSize || sum != (fr.El{}) {
		t.Errorf("%s: Sum: %v, %v", what, back(sum), fault)
	}
	if p, fault := x.Poly(e, fr.Of(4)); fault != api.ErrSize || len(p) != 0 {
		t.Errorf("%s: Poly: %v, %v", what, backs(p), fault)
	}
}

// wantSums fails if Poly does not tell the polynomial of these matrices' sum at a, or Sum
// what it is worth at some b. Of great ones it is asked at these b alone, as all of its
// scalars take long.
func wantSums(t *testing.T, what string, x index.Index, l [3]matrix, e [3]*big.Int, a *big.Int, bs []*big.Int) {
	t.Helper()
	p, fault := x.Poly(three(e), el(a))
	wantInForm(t, what, p, x.N)
	if fault != api.OK {
		t.Errorf("%s: Poly by %v at %v: %v", what, e, a, fault)
	}
	if x.N*x.M <= 1<<17 {
		if wanted := polyOf(x.N, l, e, a); !slices.Equal(p, els(wanted)) {
			t.Errorf("%s: Poly by %v at %v: %v, not %v", what, e, a, backs(p), wanted)
		}
	}
	for _, b := range bs {
		sum, fault := x.Sum(three(e), el(a), el(b))
		wanted := sumOf(x.N, l, e, a, b)
		if fault != api.OK || sum != el(wanted) {
			t.Errorf("%s: Sum by %v at %v, %v: %v, %v, not %v", what, e, a, b, back(sum), fault, wanted)
		}
		if got := worth(backs(p), b); !same(got, wanted) {
			t.Errorf("%s: Poly by %v at %v is worth %v at %v, not %v", what, e, a, got, b, wanted)
		}
	}
}

// numbers makes numbers for tests by a rule, so that every run has the same ones.
type numbers struct{ state uint64 }

func (s *numbers) word() uint64 {
	s.state += 0x9e3779b97f4a7c15
	z := s.state
	z = (z ^ z>>30) * 0xbf58476d1ce4e5b9
	z = (z ^ z>>27) * 0x94d049bb133111eb
	return z ^ z>>31
}

// below is a number from 0 to n - 1.
func (s *numbers) below(n int) int { return int(s.word() % uint64(n)) }

// big is one from 1 to r - 1: a great one, or one that is small, or nearly r.
func (s *numbers) big() *big.Int {
	switch s.below(6) {
	case 0:
		return whole(1)
	case 1:
		return whole(int64(1 + s.below(300)))
	case 2:
		return minus(int64(1 + s.below(300)))
	}
	n := new(big.Int)
	for range 5 {
		n.Lsh(n, 64).Or(n, new(big.Int).SetUint64(s.word()))
	}
	n.Mod(n, minus(1))
	return n.Add(n, whole(1))
}

// list are so many numbers; some are 0.
func (s *numbers) list(count int) (l []*big.Int) {
	for range count {
		if s.below(7) == 0 {
			l = append(l, whole(0))
			continue
		}
		l = append(l, s.big())
	}
	return l
}

// triple are three.
func (s *numbers) triple() [3]*big.Int { return [3]*big.Int{s.big(), s.big(), s.big()} }

// sorted are so many entries, by rows and then places, none twice.
func (s *numbers) sorted(rows, cols, count int) (m []api.Entry) {
	places := map[int]bool{}
	for len(places) < count {
		places[s.below(rows*cols)] = true
	}
	for place := range rows * cols {
		if places[place] {
			m = append(m, entry(place/cols, place%cols, s.big()))
		}
	}
	return m
}

// loose are so many entries in any order, some at one place, some of 0.
func (s *numbers) loose(n, count int) (m []api.Entry) {
	for range count {
		m = append(m, entry(s.below(n), s.below(n), s.list(1)[0]))
	}
	return m
}

// sketch is what a circuit is to be like: how many rows, columns, inputs, and entries of
// A, B and C.
type sketch struct{ rows, cols, inputs, a, b, c int }

// drawn is a circuit of a sketch.
func (s *numbers) drawn(x sketch) api.Circuit {
	return api.Circuit{
		Rows: uint32(x.rows), Cols: uint32(x.cols), Inputs: uint32(x.inputs),
		A: s.sorted(x.rows, x.cols, x.a), B: s.sorted(x.rows, x.cols, x.b), C: s.sorted(x.rows, x.cols, x.c),
	}
}

// sketches are of several sizes; some have no entries in a matrix, or in all, some have
// matrices that are full.
func sketches() []sketch {
	return []sketch{
		{1, 1, 1, 0, 0, 0}, {1, 1, 1, 1, 1, 1}, {1, 1, 1, 0, 1, 0}, {1, 3, 2, 1, 1, 1}, {1, 5, 5, 3, 2, 5}, {1, 6, 1, 6, 6, 6},
		{5, 1, 1, 5, 0, 2}, {4, 1, 1, 4, 4, 4}, {2, 2, 1, 2, 1, 3}, {2, 2, 2, 4, 4, 4}, {3, 4, 4, 0, 5, 6}, {3, 4, 1, 5, 0, 6},
		{3, 4, 2, 5, 6, 0}, {3, 4, 3, 0, 0, 7}, {5, 6, 3, 0, 0, 0}, {6, 5, 5, 30, 30, 30}, {7, 9, 3, 20, 11, 30}, {9, 7, 1, 5, 40, 8},
		{8, 9, 7, 8, 9, 7}, {8, 9, 9, 7, 8, 9}, {16, 12, 4, 16, 16, 16}, {17, 12, 4, 17, 1, 15}, {3, 16, 1, 40, 48, 3}, {3, 17, 1, 1, 32, 33},
		{13, 3, 2, 20, 20, 20}, {2, 40, 40, 50, 3, 17}, {30, 20, 4, 100, 50, 64},
	}
}

// greatSketches are nearer to the limits, and at them.
func greatSketches() []sketch {
	return []sketch{{100, 70, 17, 256, 300, 90}, {1, 1024, 1, 700, 512, 1}, {1024, 1, 1, 1024, 1, 900}, {1024, 1024, 600, 4096, 4095, 2049}}
}

// sized is how great a shape by hand is to be: N, M, and how many entries it has.
type sized struct {
	n, m    int
	a, b, c int
}

// byHand is a shape of such entries as no circuit has.
func (s *numbers) byHand(x sized) pad.Shape {
	return pad.Shape{N: x.n, X: s.below(99) - 50, M: x.m, Rows: [3][]api.Entry{s.loose(x.n, x.a), s.loose(x.n, x.b), s.loose(x.n, x.c)}}
}

// manySizes are N and M of each small power of 2, with K empty, with one entry, with one
// place left, and full.
func manySizes() (l []sized) {
	for n := 1; n <= 16; n *= 2 {
		for m := 1; m <= 16; m *= 2 {
			l = append(l, sized{n, m, 0, 0, 0}, sized{n, m, 1, m, m - 1}, sized{n, m, m, m / 2, 0}, sized{n, m, m - 1, 1, m}, sized{n, m, m, m, m})
		}
	}
	return l
}
