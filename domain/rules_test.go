package domain_test

import (
	"math"
	"slices"
	"strconv"
	"sync"
	"testing"

	"marlinspike/api"
	"marlinspike/domain"
	"marlinspike/fr"
)

// R1 to R6 for this layer's calls.

// call is one of those that tell lists, asked of one list: what lists it tells, and
// the error.
type call struct {
	name string
	ask  func(d *domain.Domain, p []fr.El) ([][]fr.El, api.Errno)
}

func calls() []call {
	return []call{
		{"Values", func(d *domain.Domain, p []fr.El) ([][]fr.El, api.Errno) {
			return [][]fr.El{d.Values(p)}, api.OK
		}},
		{"Poly", func(d *domain.Domain, p []fr.El) ([][]fr.El, api.Errno) {
			l, e := d.Poly(p)
			return [][]fr.El{l}, e
		}},
		{"MulV", func(d *domain.Domain, p []fr.El) ([][]fr.El, api.Errno) {
			return [][]fr.El{d.MulV(p)}, api.OK
		}},
		{"DivV", func(d *domain.Domain, p []fr.El) ([][]fr.El, api.Errno) {
			quotient, left := d.DivV(p)
			return [][]fr.El{quotient, left}, api.OK
		}},
	}
}

// asked are the answers of the calls that take no list.
func asked(d *domain.Domain, y, z fr.El, i int) []fr.El {
	size, has := int64(d.Size()), int64(0)
	if d.Has(z) {
		has = 1
	}
	return []fr.El{fr.Of(size), d.At(i), fr.Of(has), d.V(z), d.U(y, z), d.Lagrange(i, z)}
}

// clones are lists of lists in other memory.
func clones(l [][]fr.El) [][]fr.El {
	other := make([][]fr.El, len(l))
	for i, p := range l {
		other[i] = slices.Clone(p)
	}
	return other
}

// alike tells whether lists of lists are the same, list by list.
func alike(l, other [][]fr.El) bool {
	return slices.EqualFunc(l, other, func(p, q []fr.El) bool { return slices.Equal(p, q) })
}

// kinds are lists that all calls are asked of: of n scalars too.
func kinds(n int) [][]fr.El { return append(some(n), values(n)...) }

// ints are whole numbers at the edges.
func ints() []int {
	return []int{math.MinInt, math.MinInt + 1, math.MinInt32, -65537, -2, -1, 0, 1, 2, 65535, 65536, 65537, math.MaxInt32, math.MaxInt - 1, math.MaxInt}
}

func TestNothingPanics(t *testing.T) {
	for _, n := range ints() {
		domain.New(n)
	}
	other := domain.Domain{} // no call told it
	domains := []*domain.Domain{nil, &other}
	for _, n := range sizes() {
		domains = append(domains, of(t, n))
	}
	for _, d := range domains {
		for _, p := range append(kinds(4), zeros(api.MaxDomain+1)) {
			for _, c := range calls() {
				c.ask(d, p)
			}
		}
		for _, i := range ints() {
			for _, z := range places(t, 4) {
				asked(d, z, fr.Of(3), i)
				asked(d, z, z, i)
			}
		}
	}
}

func TestNilDomains(t *testing.T) {
	var d *domain.Domain
	if d.Size() != 0 {
		t.Errorf("Size of nil: %d", d.Size())
	}
	for _, i := range ints() {
		for _, z := range places(t, 4) {
			if d.Has(z) {
				t.Errorf("nil has %s", big10(z))
			}
			for j, x := range asked(d, z, fr.Of(3), i) {
				wantScalar(t, "of nil, the answer "+strconv.Itoa(j), x, fr.El{})
			}
			wantScalar(t, "U of nil and two alike", d.U(z, z), fr.El{})
		}
	}
	for _, p := range append(kinds(4), list(1), list(1, 2), zeros(3)) {
		for _, c := range calls() {
			got, e := c.ask(d, p)
			if c.name == "Poly" && e != api.ErrNil {
				t.Errorf("Poly of nil: %v", e)
			}
			for _, l := range got {
				if len(l) != 0 {
					t.Errorf("%s of nil: %s", c.name, text(l))
				}
			}
		}
	}
}

// All polynomials that are told are in form, and beside an error there is nothing.
func TestAnswersAreInForm(t *testing.T) {
	refused := 0
	for _, n := range sizes() {
		for _, c := range calls() {
			for _, p := range kinds(n) {
				got, e := c.ask(of(t, n), p)
				if e != api.OK {
					refused++
				}
				for _, l := range got {
					if c.name == "Values" && len(l) != n || c.name != "Values" && count(l) != len(l) || e != api.OK && len(l) != 0 {
						t.Errorf("%d: %s of %s: %s, %v", n, c.name, text(p), text(l), e)
					}
				}
			}
		}
	}
	if refused < 20 {
		t.Errorf("%d were refused alone", refused)
	}
}

// Zeros at the end of a list, and whether there is one that is empty, alter no
// answer; but Poly counts them.
func TestListsInAnyForm(t *testing.T) {
	for _, n := range sizes() {
		d := of(t, n)
		for _, c := range calls() {
			if c.name == "Poly" {
				continue
			}
			for _, p := range kinds(n) {
				wanted, _ := c.ask(d, p[:count(p)])
				for _, more := range []int{0, 1, n, 2*n + 1} {
					if got, _ := c.ask(d, longer(p, more)); !alike(got, wanted) {
						t.Errorf("%d: %s of %s, with %d zeros behind: %v, not %v", n, c.name, text(p), more, got, wanted)
					}
				}
			}
			wanted, _ := c.ask(d, nil)
			for _, none := range [][]fr.El{{}, list(1, 2)[:0], zeros(1)[:0], zeros(1)} {
				if got, _ := c.ask(d, none); !alike(got, wanted) {
					t.Errorf("%d: %s of none: %v, not %v", n, c.name, got, wanted)
				}
			}
		}
	}
}

// Asked several times, of domains made anew and of one, with all other calls
// between, the same is answered.
func TestAnswersHangOnArgumentsAlone(t *testing.T) {
	s := numbers{state: 20}
	y, z := s.scalar(), s.scalar()
	kept := map[int]*domain.Domain{}
	var before [][][]fr.El
	for range 2 {
		at := 0
		for _, n := range sizes() {
			if kept[n] == nil {
				kept[n] = of(t, n)
			}
			for _, p := range kinds(n) {
				for _, d := range []*domain.Domain{kept[n], of(t, n)} {
					answers := [][]fr.El{asked(d, y, z, 3), asked(kept[n], z, y, -3), asked(d, y, y, 0)}
					for _, c := range calls() {
						got, e := c.ask(d, p)
						answers = append(append(answers, clones(got)...), list(int64(e)))
					}
					if at == len(before) {
						before = append(before, answers)
					}
					if !alike(before[at], answers) {
						t.Errorf("%d of %s, asked again: %v, not %v", n, text(p), answers, before[at])
					}
					at++
				}
				if at >= 2 && len(before) == at && !alike(before[at-2], before[at-1]) {
					t.Errorf("%d of %s: two domains tell it otherwise", n, text(p))
				}
			}
		}
	}
}

// roomy is the list with room behind its end that nobody may touch.
func roomy(l []fr.El) []fr.El {
	return append(append(make([]fr.El, 0, len(l)+4), l...), list(57005, 0, 57006, 57007)...)[:len(l)]
}

// untouched tells whether a list made by roomy, and its room, are as they were.
func untouched(l, was []fr.El) bool {
	return slices.Equal(l[:cap(l)], append(slices.Clone(was), list(57005, 0, 57006, 57007)...))
}

// spoil overwrites a list and the room behind its end.
func spoil(l []fr.El) {
	for i := range l[:cap(l)] {
		l[:cap(l)][i] = fr.Of(48879)
	}
}

func TestArgumentsAreNotChangedAndNotKept(t *testing.T) {
	for _, n := range sizes() {
		d := of(t, n)
		for _, c := range calls() {
			for i, k := range kinds(n) {
				what := strconv.Itoa(n) + ": " + c.name + ", " + strconv.Itoa(i)
				wanted, of := c.ask(d, slices.Clone(k))
				wanted = clones(wanted)
				p := roomy(k)
				got, e := c.ask(d, p)
				if !untouched(p, k) {
					t.Errorf("%s: the list was changed", what)
				}
				if !alike(got, wanted) || e != of {
					t.Errorf("%s: with room behind, it is %v, %v, not %v, %v", what, got, e, wanted, of)
				}
				spoil(p)
				if !alike(got, wanted) {
					t.Errorf("%s: the answer is in the memory that was handed in", what)
				}
				if got, e = c.ask(d, k); !alike(got, wanted) || e != of {
					t.Errorf("%s: asked again, it is %v, %v", what, got, e)
				}
			}
		}
	}
}

func TestAnswersAreNewMemory(t *testing.T) {
	for _, n := range sizes() {
		d := of(t, n)
		for _, c := range calls() {
			for i, k := range kinds(n) {
				what := strconv.Itoa(n) + ": " + c.name + ", " + strconv.Itoa(i)
				p := roomy(k)
				got, _ := c.ask(d, p)
				wanted := clones(got)
				for j := range got {
					again, _ := c.ask(d, p)
					spoil(again[j]) // its own room is enough, and no other list's is it
					for other := range again {
						if other != j && !slices.Equal(again[other], wanted[other]) {
							t.Errorf("%s: two lists of the answer are in one memory", what)
						}
					}
					if !alike(got, wanted) {
						t.Errorf("%s: two answers are in one memory", what)
					}
				}
				for j := range got {
					spoil(got[j])
				}
				if !untouched(p, k) {
					t.Errorf("%s: the answer is in the memory that was handed in", what)
				}
				if again, _ := c.ask(d, p); !alike(again, wanted) {
					t.Errorf("%s: it shows what was written into an answer", what)
				}
			}
		}
	}
}

// Rooms behind the two lists of one answer are apart too, whichever is written
// first, and what is put behind one of them goes nowhere else.
func TestQuotientAndRestAreApart(t *testing.T) {
	s := numbers{state: 21}
	for _, n := range sizes() {
		d := of(t, n)
		for m := range 4 * n {
			p := roomy(s.scalars(m))
			was := slices.Clone(p)
			quotient, left := d.DivV(p)
			wanted, wantedRest := slices.Clone(quotient), slices.Clone(left)
			for range 20 {
				quotient = append(quotient, fr.Of(77))
			}
			if !slices.Equal(left, wantedRest) {
				t.Errorf("%d, %d: the rest lies behind the quotient", n, m)
			}
			for range 20 {
				left = append(left, fr.Of(78))
			}
			if !slices.Equal(quotient[:len(wanted)], wanted) || !slices.Equal(quotient[len(wanted):], slices.Repeat(list(77), 20)) {
				t.Errorf("%d, %d: the quotient lies behind the rest", n, m)
			}
			if !untouched(p, was) {
				t.Errorf("%d, %d: the list was changed", n, m)
			}
		}
	}
}

// One domain may be asked by many at once, of the same lists, and tells them the
// same.
func TestManyAtOnce(t *testing.T) {
	s := numbers{state: 22}
	d, p := of(t, 16), s.scalars(16)
	y, z := s.scalar(), s.scalar()
	var wanted [][][]fr.El
	for _, c := range calls() {
		l, _ := c.ask(d, p)
		wanted = append(wanted, clones(l))
	}
	wantedScalars := asked(d, y, z, -5)
	var all sync.WaitGroup
	for range 8 {
		all.Go(func() {
			for range 5 {
				for i, c := range calls() {
					if got, _ := c.ask(d, p); !alike(got, wanted[i]) {
						t.Errorf("%s: %v, not %v", c.name, got, wanted[i])
					}
				}
				if got := asked(d, y, z, -5); !slices.Equal(got, wantedScalars) {
					t.Errorf("%v, not %v", got, wantedScalars)
				}
			}
		})
	}
	all.Wait()
}
