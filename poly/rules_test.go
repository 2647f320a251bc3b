package poly_test

import (
	"math"
	"slices"
	"strconv"
	"sync"
	"testing"

	"marlinspike/api"
	"marlinspike/fr"
	"marlinspike/poly"
)

// R1 to R6 for this layer's calls.

// call is one of them, asked of two lists (of one alone where it takes one): what
// lists it tells, and the error.
type call struct {
	name string
	ask  func(p, q []fr.El) ([][]fr.El, api.Errno)
}

func calls() []call {
	one := func(l []fr.El) [][]fr.El { return [][]fr.El{l} }
	return []call{
		{"Of", func(p, _ []fr.El) ([][]fr.El, api.Errno) { return one(poly.Of(p...)), api.OK }},
		{"Add", func(p, q []fr.El) ([][]fr.El, api.Errno) { return one(poly.Add(p, q)), api.OK }},
		{"Sub", func(p, q []fr.El) ([][]fr.El, api.Errno) { return one(poly.Sub(p, q)), api.OK }},
		{"Scale", func(p, _ []fr.El) ([][]fr.El, api.Errno) { return one(poly.Scale(p, fr.Of(-3))), api.OK }},
		{"Scale by 0", func(p, _ []fr.El) ([][]fr.El, api.Errno) { return one(poly.Scale(p, fr.El{})), api.OK }},
		{"Scale by 1", func(p, _ []fr.El) ([][]fr.El, api.Errno) { return one(poly.Scale(p, fr.Of(1))), api.OK }},
		{"Shift by 0", func(p, _ []fr.El) ([][]fr.El, api.Errno) {
			l, e := poly.Shift(p, 0)
			return one(l), e
		}},
		{"Shift by 3", func(p, _ []fr.El) ([][]fr.El, api.Errno) {
			l, e := poly.Shift(p, 3)
			return one(l), e
		}},
		{"Shift by -1", func(p, _ []fr.El) ([][]fr.El, api.Errno) {
			l, e := poly.Shift(p, -1)
			return one(l), e
		}},
		{"Mul", func(p, q []fr.El) ([][]fr.El, api.Errno) { return one(poly.Mul(p, q)), api.OK }},
		{"Eval", func(p, q []fr.El) ([][]fr.El, api.Errno) {
			return one([]fr.El{poly.Eval(p, fr.Of(5)), poly.Eval(q, fr.Of(-9))}), api.OK
		}},
		{"DivMod", func(p, q []fr.El) ([][]fr.El, api.Errno) {
			quotient, rest, e := poly.DivMod(p, q)
			return [][]fr.El{quotient, rest}, e
		}},
		{"Same", func(p, q []fr.El) ([][]fr.El, api.Errno) {
			if poly.Same(p, q) {
				return one(list(1)), api.OK
			}
			return one(nil), api.OK
		}},
		{"Points", func(p, q []fr.El) ([][]fr.El, api.Errno) {
			l, e := poly.Points(p, q)
			return one(l), e
		}},
	}
}

// clones are lists of lists in other memory.
func clones(l [][]fr.El) [][]fr.El {
	other := make([][]fr.El, len(l))
	for i, p := range l {
		other[i] = slices.Clone(p)
	}
	return other
}

// alike tells whether lists of lists are the same, list by list.
func alike(l, other [][]fr.El) bool {
	return slices.EqualFunc(l, other, func(p, q []fr.El) bool { return slices.Equal(p, q) })
}

// kinds are pairs of lists that all calls are asked of: points too, so that all
// xs are unlike.
func kinds() [][2][]fr.El {
	s := numbers{state: 30}
	l := [][2][]fr.El{
		{s.scalars(5), s.scalars(5)}, {s.scalars(9), s.scalars(2)}, {s.scalars(2), s.scalars(9)},
		{list(1, 2, 3), list(4, 5, 6)}, {list(1, 2, 0), list(-1, 0, 0)}, {list(6), list(2)}, {list(0), list(2)},
		{list(2, 0, 0), list(7)}, {from(-3, 6), slices.Repeat(list(4), 6)}, {from(0, 4), zeros(4)},
		{nil, list(1)}, {list(1), nil}, {nil, nil}, {zeros(3), zeros(3)}, {list(3, 3), list(3, 3)},
	}
	for _, p := range some()[5:] {
		l = append(l, [2][]fr.El{p, list(1, 0, 2)}, [2][]fr.El{poly.Mul(p, list(1, 3)), list(1, 3)})
	}
	return l
}

func TestNothingPanics(t *testing.T) {
	for _, p := range some() {
		for _, q := range some() {
			for _, c := range calls() {
				c.ask(p, q)
			}
		}
		for _, n := range []int{math.MinInt, math.MinInt32, -1, 0, 1, 65535, 65536, 65537, math.MaxInt32, math.MaxInt} {
			poly.Shift(p, n)
		}
	}
}

// Lists of the greatest size, and of zeros.
func TestGreatLists(t *testing.T) {
	s := numbers{state: 31}
	few, many := s.scalars(3), s.scalars(api.MaxDomain+1)
	none := zeros(api.MaxDomain + 1)
	want(t, "Of many", poly.Of(many...), many)
	want(t, "Of many zeros", poly.Of(none...), nil)
	want(t, "Add", poly.Add(few, many), append(sum(few, many[:3]), many[3:]...))
	want(t, "Add, of zeros", poly.Add(none, few), few)
	want(t, "Sub", poly.Sub(many, many), nil)
	want(t, "Sub, of zeros", poly.Sub(few, none), few)
	want(t, "Mul, of zeros", poly.Mul(none, many), nil)
	want(t, "Mul, of zeros", poly.Mul(none, none), nil)
	want(t, "Scale, of zeros", poly.Scale(none, s.scalar()), nil)
	wantDivided(t, "many by few", many[:6000], few)
	wantDivided(t, "few by many", few, many[:6000])
	want(t, "Mul by Z", poly.Mul(many, list(0, 1)), append(zeros(1), many...))
	if poly.Same(few, many) || poly.Same(none, few) || !poly.Same(none, nil) || !poly.Same(few, append(slices.Clone(few), none...)) {
		t.Error("Same")
	}
	if poly.Eval(none, few[0]) != (fr.El{}) || poly.Eval(append(slices.Clone(few), none...), few[0]) != worth(few, few[0]) {
		t.Error("Eval")
	}
	if p, e := poly.Points(none, none); len(p) != 0 || e != api.ErrArg {
		t.Errorf("Points: %s, %v", text(p), e)
	}
}

// Zeros at the end of a list, and whether there is one that is empty, alter no
// answer; but Points counts them.
func TestListsInAnyForm(t *testing.T) {
	for _, c := range calls() {
		if c.name == "Points" {
			continue
		}
		for _, k := range kinds() {
			p, q := k[0][:count(k[0])], k[1][:count(k[1])]
			wanted, e := c.ask(p, q)
			for n := range 4 {
				for m := range 4 {
					got, of := c.ask(longer(p, n), longer(q, m))
					if !alike(got, wanted) || of != e {
						t.Errorf("%s of %s and %s, with %d and %d zeros behind: %v, not %v", c.name, text(p), text(q), n, m, got, wanted)
					}
				}
			}
		}
		empty := [][]fr.El{nil, {}, list(1, 2)[:0], zeros(1)[:0], zeros(1)}
		for _, q := range [][]fr.El{nil, list(1), list(1, 2, 3)} {
			wantedAhead, e := c.ask(nil, q)
			wantedBehind, of := c.ask(q, nil)
			for _, none := range empty {
				if got, again := c.ask(none, q); !alike(got, wantedAhead) || again != e {
					t.Errorf("%s of none and %s: %v, %v, not %v, %v", c.name, text(q), got, again, wantedAhead, e)
				}
				if got, again := c.ask(q, none); !alike(got, wantedBehind) || again != of {
					t.Errorf("%s of %s and none: %v, %v, not %v, %v", c.name, text(q), got, again, wantedBehind, of)
				}
			}
		}
	}
}

// All that is told is in form, and beside an error there is nothing.
func TestAnswersAreInForm(t *testing.T) {
	refused := 0
	for _, c := range calls() {
		for _, k := range kinds() {
			got, e := c.ask(k[0], k[1])
			for _, p := range got {
				if c.name != "Eval" && count(p) != len(p) {
					t.Errorf("%s of %s and %s: %s", c.name, text(k[0]), text(k[1]), text(p))
				}
				if e != api.OK && len(p) != 0 {
					t.Errorf("%s of %s and %s: %v, and %s", c.name, text(k[0]), text(k[1]), e, text(p))
				}
			}
			if e != api.OK {
				refused++
			}
		}
	}
	if refused < 20 {
		t.Errorf("%d were refused alone", refused)
	}
}

// Asked several times, with all other calls between, the same is answered.
func TestAnswersHangOnArgumentsAlone(t *testing.T) {
	ks := kinds()
	var before [][][]fr.El
	var numbers []api.Errno
	for _, k := range ks {
		for _, c := range calls() {
			l, e := c.ask(k[0], k[1])
			before, numbers = append(before, clones(l)), append(numbers, e)
		}
	}
	for i := len(ks) - 1; i >= 0; i-- {
		for j, c := range slices.Backward(calls()) {
			l, e := c.ask(ks[i][0], ks[i][1])
			if at := i*len(calls()) + j; !alike(l, before[at]) || e != numbers[at] {
				t.Errorf("%s, asked again: %v, %v, not %v, %v", c.name, l, e, before[at], numbers[at])
			}
		}
	}
}

// roomy is the list with room behind its end that nobody may touch.
func roomy(l []fr.El) []fr.El {
	return append(append(make([]fr.El, 0, len(l)+4), l...), list(57005, 0, 57006, 57007)...)[:len(l)]
}

// untouched tells whether a list made by roomy, and its room, are as they were.
func untouched(l, was []fr.El) bool {
	return slices.Equal(l[:cap(l)], append(slices.Clone(was), list(57005, 0, 57006, 57007)...))
}

// spoil overwrites a list and the room behind its end.
func spoil(l []fr.El) {
	for i := range l[:cap(l)] {
		l[:cap(l)][i] = fr.Of(48879)
	}
}

func TestArgumentsAreNotChangedAndNotKept(t *testing.T) {
	for _, c := range calls() {
		for i, k := range kinds() {
			what := c.name + ", " + strconv.Itoa(i)
			wanted, of := c.ask(slices.Clone(k[0]), slices.Clone(k[1]))
			wanted = clones(wanted)
			p, q := roomy(k[0]), roomy(k[1])
			got, e := c.ask(p, q)
			if !untouched(p, k[0]) || !untouched(q, k[1]) {
				t.Errorf("%s: a list was changed", what)
			}
			if !alike(got, wanted) || e != of {
				t.Errorf("%s: with room behind, it is %v, %v, not %v, %v", what, got, e, wanted, of)
			}
			spoil(p)
			spoil(q)
			if !alike(got, wanted) {
				t.Errorf("%s: the answer is in the memory that was handed in", what)
			}
			if got, e = c.ask(k[0], k[1]); !alike(got, wanted) || e != of {
				t.Errorf("%s: asked again, it is %v, %v", what, got, e)
			}
		}
	}
}

func TestAnswersAreNewMemory(t *testing.T) {
	for _, c := range calls() {
		for i, k := range kinds() {
			what := c.name + ", " + strconv.Itoa(i)
			p, q := roomy(k[0]), roomy(k[1])
			got, _ := c.ask(p, q)
			wanted := clones(got)
			for j := range got {
				again, _ := c.ask(p, q)
				spoil(again[j]) // its own room is enough, and no other list's is it
				for other := range again {
					if other != j && !slices.Equal(again[other], wanted[other]) {
						t.Errorf("%s: two lists of the answer are in one memory", what)
					}
				}
				if !alike(got, wanted) {
					t.Errorf("%s: two answers are in one memory", what)
				}
			}
			for j := range got {
				spoil(got[j])
			}
			if !untouched(p, k[0]) || !untouched(q, k[1]) {
				t.Errorf("%s: the answer is in the memory that was handed in", what)
			}
			if again, _ := c.ask(p, q); !alike(again, wanted) {
				t.Errorf("%s: it shows what was written into an answer", what)
			}
		}
	}
}

// Rooms behind the two lists of one answer are apart too, whichever is written
// first, and what is put behind one of them goes nowhere else.
func TestQuotientAndRestAreApart(t *testing.T) {
	s := numbers{state: 32}
	for n := range 12 {
		for m := 1; m < 8; m++ {
			p, q := roomy(s.scalars(n)), roomy(s.scalars(m))
			wasP, wasQ := slices.Clone(p), slices.Clone(q)
			quotient, rest, e := poly.DivMod(p, q)
			wanted, left := slices.Clone(quotient), slices.Clone(rest)
			if e != api.OK {
				t.Error(e)
			}
			for range 20 {
				quotient = append(quotient, fr.Of(77))
			}
			if !slices.Equal(rest, left) {
				t.Errorf("%d by %d: the rest lies behind the quotient", n, m)
			}
			for range 20 {
				rest = append(rest, fr.Of(78))
			}
			if !slices.Equal(quotient[:len(wanted)], wanted) || !slices.Equal(quotient[len(wanted):], slices.Repeat(list(77), 20)) {
				t.Errorf("%d by %d: the quotient lies behind the rest", n, m)
			}
			if !untouched(p, wasP) || !untouched(q, wasQ) {
				t.Errorf("%d by %d: a list was changed", n, m)
			}
		}
	}
}

// Lists that are one another, or pieces of one another, are as good as others.
func TestListsThatShareMemory(t *testing.T) {
	s := numbers{state: 33}
	whole := s.scalars(12)
	was := slices.Clone(whole)
	for _, c := range calls() {
		for from := range 8 {
			for to := from; to <= 12; to += 2 {
				p, q := whole[from:to], whole[2:9]
				for range 2 {
					wanted, e := c.ask(slices.Clone(p), slices.Clone(q))
					got, of := c.ask(p, q)
					if !alike(got, wanted) || e != of || !slices.Equal(whole, was) {
						t.Errorf("%s of %d to %d: %v, %v, not %v, %v", c.name, from, to, got, of, wanted, e)
					}
					p, q = q, p
				}
			}
		}
		got, e := c.ask(whole, whole)
		wanted, of := c.ask(was, slices.Clone(was))
		if !alike(got, wanted) || e != of {
			t.Errorf("%s of one list twice: %v, %v, not %v, %v", c.name, got, e, wanted, of)
		}
	}
}

// The calls may be asked by many at once, of the same lists, and tell them the
// same.
func TestManyAtOnce(t *testing.T) {
	s := numbers{state: 34}
	p, q := s.scalars(20), s.scalars(20)
	var wanted [][][]fr.El
	for _, c := range calls() {
		l, _ := c.ask(p, q)
		wanted = append(wanted, clones(l))
	}
	var all sync.WaitGroup
	for range 8 {
		all.Go(func() {
			for range 5 {
				for i, c := range calls() {
					if got, _ := c.ask(p, q); !alike(got, wanted[i]) {
						t.Errorf("%s: %v, not %v", c.name, got, wanted[i])
					}
				}
			}
		})
	}
	all.Wait()
}
