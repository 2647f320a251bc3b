package keys_test

import (
	"fmt"
	"math/big"
	"slices"
	"testing"

	"marlinspike/api"
	"marlinspike/commit"
	"marlinspike/decide"
	"marlinspike/fr"
	"marlinspike/group"
	"marlinspike/index"
	"marlinspike/keys"
	"marlinspike/srs"
)

// P27.2: Make and Setup.

// scalarPairs are two scalars of setups: small ones, such that are less than 0, great ones,
// an element of K's, and the same one twice.
func scalarPairs() [][2]*big.Int {
	return [][2]*big.Int{
		{whole(2), whole(3)}, {minus(1), minus(1)}, {number(great1), number(great2)}, {whole(1), minus(7)}, {elementsOf(8)[3], number(great1)}, {minus(2), whole(1)},
	}
}

// mostOf is the need of a circuit.
func mostOf(t *testing.T, c api.Circuit) int {
	t.Helper()
	s := padded(t, c)
	return int(needOf(decide.Sizes{N: s.N, X: s.X, M: s.M}).Int64())
}

// Of circuits of many sizes and setups of two scalars the points are multiples of the
// generator.
func TestMakeOfCircuits(t *testing.T) {
	l, pairs := circuits(), scalarPairs()
	long := make([]*srs.SRS, len(pairs))
	together(len(pairs), func(i int) { long[i] = made(t, pairs[i][0], pairs[i][1], 200) })
	byNeed := [2]int{}
	together(len(l)*len(pairs), func(i int) {
		c, which := l[i/len(pairs)], i%len(pairs)
		s, need := padded(t, c), mostOf(t, c)
		tau, g := pairs[which][0], pairs[which][1]
		for _, d := range []int{need, need + 1 + which} {
			what := fmt.Sprint("the circuit ", i/len(pairs), ", the setup ", which, ", the degree ", d)
			k, e := keys.Make(trimmed(t, long[which], d), indexed(t, s), s.Inputs)
			if e != api.OK {
				t.Errorf("%s: %v", what, e)
				continue
			}
			want(t, what, k, taleOf(s, tau, g, d))
		}
		if k, e := keys.Make(trimmed(t, long[which], need-1), indexed(t, s), s.Inputs); e != api.ErrDegree || k != (keys.Key{}) {
			t.Errorf("the circuit %d, the setup %d, the need less 1: %+v, %v", i/len(pairs), which, k, e)
		}
	})
	for _, c := range l {
		s := padded(t, c)
		if 2*s.N > 6*s.M {
			byNeed[0]++
		} else {
			byNeed[1]++
		}
	}
	if byNeed[0] < 2 || byNeed[1] < 2 {
		t.Errorf("the needs are by N and by M: %v", byNeed)
	}
}

// The points are the commitments, without blinding, to the index's polynomials.
func TestMakeIsCommitments(t *testing.T) {
	long := made(t, number(great2), number(great1), 200)
	l := circuits()
	together(len(l), func(i int) {
		s := padded(t, l[i])
		x := indexed(t, s)
		short := trimmed(t, long, mostOf(t, l[i])+i%3)
		for _, setup := range []*srs.SRS{short, otherSetup(short, i)} {
			k, e := keys.Make(setup, x, s.Inputs)
			if e != api.OK || k.Z != (decide.Sizes{N: s.N, X: s.X, M: s.M}) || k.Inputs != s.Inputs || k.D != short.Degree() {
				t.Errorf("the circuit %d: %+v, %d, %d, %v", i, k.Z, k.Inputs, k.D, e)
				continue
			}
			wantSame1(t, fmt.Sprint(i, ", the blind"), k.Blind, short.Blinds[0])
			wantSame2(t, fmt.Sprint(i, ", Tau"), k.Tau, short.Tau)
			for j := range 3 {
				for name, pair := range map[string]struct {
					p    []fr.El
					made group.G1
				}{"Row": {x.Row[j], k.Row[j]}, "Col": {x.Col[j], k.Col[j]}, "Val": {x.Val[j], k.Val[j]}} {
					c, e := commit.Commit(short, pair.p, nil)
					if e != api.OK {
						t.Error(e)
					}
					wantSame1(t, fmt.Sprint("the circuit ", i, ", ", name, " ", j), pair.made, c)
				}
			}
		}
	})
}

// A setup is taken as it is, good or not.
func TestMakeByLooseSetups(t *testing.T) {
	all := loose(210)
	one := all.setup()
	l := circuits()
	together(len(l), func(i int) {
		s, d := padded(t, l[i]), mostOf(t, l[i])+i%7
		o := exps{all.powers[:d+1], all.blinds[:d+1], all.tau}
		k, e := keys.Make(&srs.SRS{Powers: one.Powers[:d+1], Blinds: one.Blinds[:d+1], Tau: one.Tau}, indexed(t, s), s.Inputs)
		if e != api.OK {
			t.Errorf("the circuit %d: %v", i, e)
			return
		}
		want(t, fmt.Sprint("the circuit ", i), k, taleBy(s, o))
	})
}

// Of far points all is far; zeros in the places of powers and blinds play their part.
func TestMakeByFarPoints(t *testing.T) {
	s := padded(t, cube())
	zeros := slices.Repeat(wholes(0), 31)
	for i, o := range []exps{
		{zeros, zeros, whole(0)}, {zeros, wholes(make([]int64, 31)...), whole(5)}, {loose(30).powers, zeros, whole(0)}, {zeros, loose(30).blinds, whole(1)},
		{append(wholes(0, 0, 0, 1), zeros[:27]...), loose(30).blinds, whole(-1)},
	} {
		k, e := keys.Make(o.setup(), indexed(t, s), 2)
		if e != api.OK {
			t.Errorf("%d: %v", i, e)
			continue
		}
		want(t, fmt.Sprint("the setup ", i), k, taleBy(s, o))
	}
}

// The greatest sizes that a setup can be for.
func TestMakeOfGreatSizes(t *testing.T) {
	circuits := []sketch{{1024, 1024, 1, 1, 1, 2}, {1024, 700, 200, 2048, 1500, 2000}, {3, 1024, 1000, 1000, 900, 1024}}
	together(len(circuits), func(i int) {
		s := padded(t, circuits[i].even())
		need := max(2*s.N, 6*s.M)
		for _, d := range []int{need, api.MaxPower} {
			k, e := keys.Make(ones(whole(5), d), indexed(t, s), s.Inputs)
			if e != api.OK {
				t.Errorf("the circuit %d, the degree %d: %v", i, d, e)
				continue
			}
			want(t, fmt.Sprint("the circuit ", i, ", the degree ", d), k, taleOf(s, whole(1), whole(5), d))
		}
		if k, e := keys.Make(ones(whole(5), need-1), indexed(t, s), s.Inputs); e != api.ErrDegree || k != (keys.Key{}) {
			t.Errorf("the circuit %d, the need less 1: %v", i, e)
		}
	})
	f, l := five{8192, 4096, 2, 4096, api.MaxPower}, anyLists(3, 2)
	wantByHand(t, "N of 8192", f, l, expsOf(whole(1), whole(5), api.MaxPower), ones(whole(5), api.MaxPower))
	f = five{8, 2, 2048, 1, api.MaxPower}
	wantByHand(t, "M of 2048", f, l, expsOf(whole(1), whole(5), api.MaxPower), ones(whole(5), api.MaxPower))
	greatest := padded(t, (sketch{1024, 1024, 4, 4096, 4096, 4096}).even()) // its need is above all degrees
	for d, wanted := range map[int]api.Errno{api.MaxPower: api.ErrDegree, api.MaxPower + 1: api.ErrArg, 6 * 4096: api.ErrArg} {
		refuseMake(t, "the greatest circuit", ones(whole(5), d), indexed(t, greatest), 4, wanted)
	}
}

// refuseMake fails if Make does not answer this error, and nothing else.
func refuseMake(t *testing.T, what string, s *srs.SRS, x index.Index, inputs int, wanted api.Errno) {
	t.Helper()
	if k, e := keys.Make(s, x, inputs); e != wanted || k != (keys.Key{}) {
		t.Errorf("%s: %v, not %v", what, e, wanted)
	}
}

// anyLists are nine polynomials of so many scalars.
func anyLists(state uint64, count int) (l [9][]*big.Int) {
	s := numbers{state: state}
	for i := range l {
		l[i] = s.bigs(count)
	}
	return l
}

// wantByHand fails if Make does not tell the key of an Index by hand.
func wantByHand(t *testing.T, what string, f five, l [9][]*big.Int, o exps, s *srs.SRS) {
	t.Helper()
	k, e := keys.Make(s, byHand(f, l), f.inputs)
	if e != api.OK {
		t.Errorf("%s: %v", what, e)
		return
	}
	want(t, what, k, taleOfLists(f, l, o))
}

// An Index made by hand is taken as it is: its lists may have any lengths.
func TestMakeByHand(t *testing.T) {
	o := expsOf(whole(2), whole(3), 12)
	s, f := o.setup(), five{4, 2, 2, 1, 12}
	wantByHand(t, "empty lists", f, [9][]*big.Int{}, o, s)
	for _, count := range []int{1, 2, 3, 7, 12, 13} {
		wantByHand(t, fmt.Sprint("lists of ", count), f, anyLists(uint64(count), count), o, s)
	}
	for i := range 9 {
		l := anyLists(uint64(90+i), 2)
		l[i] = anyLists(4, 13)[0]
		wantByHand(t, fmt.Sprint("a longer list ", i), f, l, o, s)
		for zeros := range 30 {
			l[i] = append(wholes(5, 7), wholes(make([]int64, zeros)...)...)
			if zeros%7 == i%7 {
				wantByHand(t, fmt.Sprint("the list ", i, ", ending in zeros"), f, l, o, s)
			}
		}
		l[i] = wholes(make([]int64, 1000)...)
		wantByHand(t, fmt.Sprint("the list ", i, " of zeros"), f, l, o, s)
		l[i] = append(wholes(make([]int64, 12)...), whole(9))
		wantByHand(t, fmt.Sprint("the list ", i, " of the degree"), f, l, o, s)
		l[i] = append(wholes(make([]int64, 13)...), whole(9))
		refuseMake(t, fmt.Sprint("the list ", i, " above the degree"), s, byHand(f, l), 1, api.ErrDegree)
		l[i] = anyLists(4, 1000)[0]
		refuseMake(t, fmt.Sprint("the list ", i, " far above the degree"), s, byHand(f, l), 1, api.ErrDegree)
		l[i] = nil
		wantByHand(t, fmt.Sprint("without the list ", i), f, l, o, s)
	}
	refuseMake(t, "all lists above the degree", s, byHand(f, anyLists(5, 14)), 1, api.ErrDegree)
	refuseMake(t, "the zero value", s, index.Index{}, 1, api.ErrSize)
	refuseMake(t, "the zero value, no inputs", s, index.Index{}, 0, api.ErrSize)
}

// What is refused by a key's numbers, at all edges: as Check tells of them. A setup has
// a degree from -1 on.
func TestMakeTellsWhatCheckTells(t *testing.T) {
	l := anyLists(8, 2)
	setups := map[int]*srs.SRS{}
	for _, d := range []int{-1, 0, 1, 11, 12, 13, 16, 23, 24, 31, 32, 300, api.MaxPower - 1, api.MaxPower, api.MaxPower + 1, 2 * api.MaxDomain} {
		setups[d] = ones(whole(5), d)
	}
	var todo []five
	for _, f := range goods()[:7] {
		for d := range setups {
			todo = append(todo, f.but(4, d), f.but(3, 0).but(4, d), f.but(0, 3).but(4, d), f.but(1, f.n).but(4, d), f.but(2, 1).but(4, d))
		}
		for i := range 4 {
			for _, n := range f.edges(i) {
				if setups[f.d] != nil {
					todo = append(todo, f.but(i, n), f.but(i, n).but(4, api.MaxPower+1), f.but(i, n).but(4, 11))
				}
			}
		}
	}
	told := map[api.Errno]int{}
	for _, f := range todo {
		told[f.fault()]++
		if f.fault() != api.OK {
			refuseMake(t, fmt.Sprintf("%+v", f), setups[f.d], byHand(f, l), f.inputs, f.fault())
		} else if told[api.OK]%3 == 0 { // to make one takes long
			wantByHand(t, fmt.Sprintf("%+v", f), f, l, expsOf(whole(1), whole(5), f.d), setups[f.d])
		}
	}
	for _, e := range []api.Errno{api.OK, api.ErrSize, api.ErrArg, api.ErrDegree} {
		if told[e] < 10 {
			t.Errorf("only %d are told %v", told[e], e)
		}
	}
}

// The first error is told.
func TestMakeRefuses(t *testing.T) {
	o := expsOf(whole(2), whole(3), 13)
	s := o.setup()
	cut := func(powers, blinds int) *srs.SRS {
		return &srs.SRS{Powers: s.Powers[:powers], Blinds: s.Blinds[:blinds], Tau: s.Tau}
	}
	good := indexed(t, padded(t, square()))
	high := byHand(five{4, 2, 2, 2, 12}, anyLists(5, 20))
	short, uneven := good, good
	short.M, uneven.X = 1, 4
	table := []struct {
		what   string
		s      *srs.SRS
		x      index.Index
		inputs int
		e      api.Errno
	}{
		{"a nil setup", nil, good, 2, api.ErrNil},
		{"a nil setup, no index", nil, index.Index{}, 2, api.ErrNil},
		{"a nil setup, no inputs", nil, good, 0, api.ErrNil},
		{"a nil setup, no index, no inputs", nil, index.Index{N: -1, X: 3, M: 1}, -5, api.ErrNil},
		{"a nil setup, high lists", nil, high, 2, api.ErrNil},
		{"the zero setup", &srs.SRS{}, good, 2, api.ErrDegree},
		{"the zero setup, no inputs", &srs.SRS{}, good, 0, api.ErrArg},
		{"the zero setup, no index", &srs.SRS{}, index.Index{}, 2, api.ErrSize},
		{"the zero setup, high lists", new(srs.SRS), high, 2, api.ErrDegree},
		{"a blind less", cut(13, 12), good, 2, api.ErrArg},
		{"a power less", cut(12, 13), good, 2, api.ErrArg},
		{"no blinds", cut(13, 0), good, 2, api.ErrArg},
		{"no powers", cut(0, 13), good, 2, api.ErrArg},
		{"a blind less, no index", cut(13, 12), index.Index{}, 2, api.ErrArg},
		{"a power less, M of 1", cut(12, 13), short, 2, api.ErrArg},
		{"no blinds, no inputs", cut(13, 0), good, 0, api.ErrArg},
		{"a blind less, too few powers", cut(5, 4), good, 2, api.ErrArg},
		{"a blind less, high lists", cut(13, 12), high, 2, api.ErrArg},
		{"the need less 1", cut(12, 12), good, 2, api.ErrDegree},
		{"the need less 1, three inputs", cut(12, 12), good, 3, api.ErrArg},
		{"the need less 1, M of 1", cut(12, 12), short, 2, api.ErrSize},
		{"the need less 1, high lists", cut(12, 12), high, 2, api.ErrDegree},
		{"N that is X", cut(13, 13), uneven, 2, api.ErrSize},
		{"M of 1", cut(13, 13), short, 2, api.ErrSize},
		{"M of 1, high lists", cut(13, 13), index.Index{N: 4, X: 2, M: 1, Row: high.Row}, 2, api.ErrSize},
		{"no inputs", cut(13, 13), good, 0, api.ErrArg},
		{"three inputs", cut(13, 13), good, 3, api.ErrArg},
		{"three inputs, high lists", cut(13, 13), high, 3, api.ErrArg},
		{"inputs below 0", cut(13, 13), good, -2, api.ErrArg},
		{"high lists", cut(13, 13), high, 2, api.ErrDegree},
		{"a list above the need, within the degree", cut(14, 14), index.Index{N: 4, X: 2, M: 2, Val: [3][]fr.El{2: els(anyLists(5, 15)[0])}}, 2, api.ErrDegree},
		{"the need", cut(13, 13), good, 2, api.OK},
		{"the need, an input", cut(13, 13), good, 1, api.OK},
	}
	for _, x := range table {
		if x.e != api.OK {
			refuseMake(t, x.what, x.s, x.x, x.inputs, x.e)
		} else if k, e := keys.Make(x.s, x.x, x.inputs); e != api.OK || k.Inputs != x.inputs || k.D != 12 {
			t.Errorf("%s: %+v, %v", x.what, k, e)
		}
	}
}

// How many inputs there are stands in the key, and plays no further part.
func TestMakeOfOtherInputs(t *testing.T) {
	by := numbers{state: 5}
	s := padded(t, by.circuit(sketch{6, 5, 5, 9, 8, 7}))
	setup := made(t, whole(2), whole(3), 96)
	wanted := taleOf(s, whole(2), whole(3), 96)
	for inputs := 1; inputs <= 8; inputs++ {
		k, e := keys.Make(setup, indexed(t, s), inputs)
		if e != api.OK {
			t.Errorf("%d inputs: %v", inputs, e)
			continue
		}
		wanted.inputs = inputs
		want(t, fmt.Sprint(inputs, " inputs"), k, wanted)
	}
	refuseMake(t, "nine inputs", setup, indexed(t, s), 9, api.ErrArg)
}

// wantSetup fails if Setup does not tell the generator, the key's Blind, and its Tau.
func wantSetup(t *testing.T, what string, k keys.Key) {
	t.Helper()
	s := k.Setup()
	if s == nil || s.Degree() != 0 || len(s.Powers) != 1 || len(s.Blinds) != 1 {
		t.Errorf("%s: %+v", what, s)
		return
	}
	wantSame1(t, what+", the power", s.Powers[0], gen1)
	wantSame1(t, what+", the blind", s.Blinds[0], k.Blind)
	wantSame2(t, what+", Tau", s.Tau, k.Tau)
}

func TestSetup(t *testing.T) {
	wantSetup(t, "the zero value", keys.Key{})
	setup := made(t, whole(2), whole(3), 40)
	k := keyOf(t, "cube", setup, cube())
	wantSetup(t, "cube", k)
	wantSetup(t, "cube, by other values", other(k, 3))
	wantSetup(t, "cube, read", got(t, "cube", textOf(t, "cube", k)))
	small := k.Setup()
	wantSame1(t, "the blind", small.Blinds[0], setup.Blinds[0])
	wantSame2(t, "Tau", small.Tau, setup.Tau)
	s := numbers{state: 80}
	for i, f := range append(goods(), five{}, five{3, 3, 3, 3, 3}, five{4, 2, 2, 0, -1}) { // what numbers it has plays no part
		x := s.anyTale(f)
		wantSetup(t, fmt.Sprint("the numbers ", i), x.key())
		wantSetup(t, fmt.Sprint("the numbers ", i, ", by other values"), other(x.key(), i))
	}
	wantSetup(t, "far points", tale{five: goods()[0], blind: whole(0), tau: whole(0), c: [9]*big.Int(wholes(1, 2, 3, 4, 5, 6, 7, 8, 9))}.key())
}

// What Setup answers is a setup by which commitments and what they hold of go on.
func TestSetupServes(t *testing.T) {
	k := keyOf(t, "square", made(t, whole(2), whole(3), 12), square())
	s := k.Setup()
	c, e := commit.Commit(s, els(wholes(5)), els(wholes(7)))
	if e != api.OK {
		t.Fatal(e)
	}
	wantSame1(t, "5 and 7 times", c, points1.tell(whole(26)))
	if _, e := commit.Commit(s, els(wholes(5, 1)), nil); e != api.ErrDegree {
		t.Errorf("a polynomial of the degree 1: %v", e)
	}
}

// The document's examples.
func TestExamples(t *testing.T) {
	if n := keys.Need(decide.Sizes{N: 4, X: 2, M: 2}); n != 12 {
		t.Errorf("Need: %d", n)
	}
	s := made(t, whole(2), whole(3), 12)
	x := indexed(t, padded(t, square()))
	refuseMake(t, "the degree 11", trimmed(t, s, 11), x, 2, api.ErrDegree)
	k, e := keys.Make(s, x, 2)
	if e != api.OK {
		t.Fatal(e)
	}
	if b, e := k.Bytes(); e != api.OK || len(b) != 592 {
		t.Errorf("its bytes: %d, %v", len(b), e)
	}
	wantSame1(t, "A's row is 1", k.Row[0], gen1)
	six := mostOf(t, cube())
	if six != 24 {
		t.Errorf("the need of x x x + x + 5 = y: %d", six)
	}
}
