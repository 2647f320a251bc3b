package open_test

import (
	"fmt"
	"runtime"
	"slices"
	"sync"
	"testing"

	"marlinspike/api"
	"marlinspike/fq"
	"marlinspike/fq2"
	"marlinspike/fr"
	"marlinspike/group"
	"marlinspike/open"
	"marlinspike/srs"
)

// R1 to R8 for this layer's calls.

// strange are points that no call told, or that are not of the group.
func strange() (l []group.G1) {
	ns := []fq.El{{}, fq.Of(1), fq.Of(-1), fq.Of(7)}
	for i := range 64 {
		l = append(l, group.G1{X: ns[i%4], Y: ns[i/4%4], Z: ns[i/16]})
	}
	return append(l, outside(), group.Curve1().Add(gen, outside()))
}

// strange2 are the same of G2.
func strange2() (l []group.G2) {
	ns := []fq2.El{{}, fq2.Of(1, 0), fq2.Of(0, -1)}
	for i := range 27 {
		l = append(l, group.G2{X: ns[i%3], Y: ns[i/3%3], Z: ns[i/9]})
	}
	return append(l, gen2)
}

// R1
func TestNothingPanics(t *testing.T) {
	ps, taus := strange(), strange2()
	setups := append(badSetups(t), nil, new(srs.SRS), made(t, whole(2), whole(3), 2))
	for n := range 6 {
		setups = append(setups, &srs.SRS{Powers: ps[:n], Blinds: ps[60 : 60+n]}, &srs.SRS{Powers: make([]group.G1, n), Blinds: ps[n : 2*n], Tau: taus[n]})
	}
	setups = append(setups, &srs.SRS{Powers: ps, Blinds: slices.Concat(ps[30:], ps[:30])}, &srs.SRS{Powers: make([]group.G1, 1<<17), Blinds: make([]group.G1, 1<<17)})
	for _, tau := range taus {
		setups = append(setups, &srs.SRS{Powers: ps[20:22], Blinds: ps[30:32], Tau: tau})
	}
	lists := append(polys(some(4)), els(zeros(1<<17)), slices.Repeat(els(wholes(1)), 66), slices.Repeat(els(wholes(-1)), 67))
	together(len(setups), func(i int) {
		s := setups[i]
		for j, p := range lists {
			for _, z := range []fr.El{{}, fr.Of(1), fr.Of(-7)} {
				open.Open(s, p, lists[(j*3+i)%len(lists)], z)
			}
		}
		for j := range 9 {
			o := open.Opening{V: fr.Of(int64(j)), B: fr.Of(int64(3 - j)), W: ps[(j*11+i)%len(ps)]}
			open.Left(s, ps[(j*7+i)%len(ps)], fr.Of(int64(j-1)), o)
			open.Check(s, ps[(j*7+i)%len(ps)], fr.Of(int64(j-1)), o)
		}
	})
}

// asked is what all calls are asked.
type asked struct {
	s    *srs.SRS
	p, b []fr.El
	c    group.G1
	z    fr.El
	o    open.Opening
}

// askedOf is a question by a setup of two scalars.
func askedOf(t *testing.T, tau, g int64, n int, seed uint64) asked {
	t.Helper()
	s := numbers{state: seed}
	x := asked{s: made(t, whole(tau), whole(g), n), p: els(s.bigs(n + 1)), b: els(s.bigs(n)), z: el(s.big())}
	x.c = committed(t, "asked", x.s, x.p, x.b)
	x.o = opened(t, "asked", x.s, x.p, x.b, x.z)
	return x
}

// answers are what all calls tell, as texts.
func (x asked) answers() (l []string) {
	add := func(what ...any) { l = append(l, fmt.Sprint(what...)) }
	add(open.Open(x.s, x.p, x.b, x.z))
	add(open.Open(x.s, x.b, nil, fr.El{}))
	add(open.Left(x.s, x.c, x.z, x.o))
	add(open.Check(x.s, x.c, x.z, x.o))
	add(open.Check(x.s, x.c, fr.El{}, x.o))
	return l
}

// R2
func TestAnswersHangOnArgumentsAlone(t *testing.T) {
	few, more := askedOf(t, 2, 3, 3, 60), askedOf(t, -5, 7, 2, 61)
	first, second := few.answers(), more.answers()
	for range 2 {
		open.Open(nil, few.p, nil, few.z)
		open.Open(more.s, few.p, nil, few.z)
		open.Left(nil, few.c, few.z, few.o)
		open.Check(&srs.SRS{}, few.c, few.z, few.o)
		if !slices.Equal(few.answers(), first) || !slices.Equal(more.answers(), second) {
			t.Error("asked again, it is another one")
		}
	}
	same := few
	same.s = &srs.SRS{Powers: slices.Clone(few.s.Powers), Blinds: slices.Clone(few.s.Blinds), Tau: few.s.Tau}
	same.p, same.b = slices.Clone(few.p), slices.Clone(few.b)
	if !slices.Equal(same.answers(), first) {
		t.Error("of a setup of the same points it is another one")
	}
}

// What may be asked may be asked by many at once, of the same lists.
func TestManyAtOnce(t *testing.T) {
	x := askedOf(t, 2, 3, 3, 62)
	wanted := x.answers()
	var workers sync.WaitGroup
	for range 8 {
		workers.Go(func() {
			for range 3 {
				if !slices.Equal(x.answers(), wanted) {
					t.Error("at once, it is another one")
				}
			}
		})
	}
	workers.Wait()
}

// What is written to a setup and to lists counts.
func TestWhatIsWrittenCounts(t *testing.T) {
	s, p, z := made(t, whole(2), whole(3), 2), els(wholes(1, 0, 1)), fr.Of(3)
	o := opened(t, "as it was", s, p, nil, z)
	wantAnswer(t, "as it was", o, answer{whole(10), whole(0), whole(5)})
	c := committed(t, "as it was", s, p, nil)
	s.Powers[1] = gen
	wantAnswer(t, "another power", opened(t, "another power", s, p, nil, z), answer{whole(10), whole(0), whole(4)})
	p[1] = fr.Of(10)
	wantAnswer(t, "another scalar", opened(t, "another scalar", s, p, nil, z), answer{whole(40), whole(0), whole(14)})
	wantAnswers(t, []question{{"as it was", s, c, z, o, true}})
	s.Tau = gen2
	wantAnswers(t, []question{{"another Tau", s, c, z, o, false}})
	want(t, "another Tau", left(t, "another Tau", s, c, z, o), whole(10))
	s.Powers, s.Blinds = s.Powers[2:], s.Blinds[2:]
	want(t, "without the first", left(t, "without the first", s, c, z, o), whole(-20))
	refuse(t, "without the first", s, wholes(0, 1), nil, whole(3), api.ErrDegree)
}

// room is what lies behind the ends of lists: nobody may touch it.
func room() []group.G1 { return []group.G1{gen, {}, {X: fq.Of(5), Y: fq.Of(6), Z: fq.Of(7)}} }

// roomEl is the same of scalars.
func roomEl() []fr.El { return els(wholes(9, 0, -8, 7)) }

// roomy is a list with room behind its end.
func roomy[T any](l, room []T) []T {
	long := slices.Concat(l, room)
	return long[:len(l)]
}

// untouched tells whether a list made by roomy is as it was, and its room too.
func untouched[T comparable](l, was, room []T) bool {
	return len(l) == len(was) && slices.Equal(l[:len(was)+len(room)], slices.Concat(was, room))
}

// R3
func TestNothingIsChanged(t *testing.T) {
	long := made(t, whole(2), whole(3), 3)
	setups := []*srs.SRS{{}, long, other(long, 2), exps{wholes(0, 1), wholes(1, 0), whole(2)}.setup(), cut(long, 2, 3), cut(long, 3, 2), cut(long, 1, 1), cut(long, 0, 3)}
	l := polys(append(some(4), wholes(0, 0, 0, 0, 1)))
	together(len(setups), func(i int) {
		s := setups[i]
		o := &srs.SRS{Powers: roomy(s.Powers, room()), Blinds: roomy(s.Blinds, room()), Tau: s.Tau}
		for j := range l {
			p, b := roomy(l[j], roomEl()), roomy(l[(j*3+i)%len(l)], roomEl())
			for _, z := range []fr.El{{}, fr.Of(2), fr.Of(-1)} {
				open.Open(o, p, b, z)
			}
			if !untouched(p, l[j], roomEl()) || !untouched(b, l[(j*3+i)%len(l)], roomEl()) {
				t.Errorf("the lists %d were changed", j)
			}
		}
		for _, a := range drawnAnswers() {
			open.Left(o, gen, fr.Of(7), a.opening())
		}
		open.Check(o, gen, fr.Of(7), drawnAnswers()[5].opening())
		if !untouched(o.Powers, s.Powers, room()) || !untouched(o.Blinds, s.Blinds, room()) || o.Tau != s.Tau {
			t.Errorf("the setup %d was changed", i)
		}
	})
}

// What was told stays as it is, whatever is written to what it was made of.
func TestNothingIsKept(t *testing.T) {
	x := askedOf(t, 2, 3, 3, 63)
	before := fmt.Sprint(x.o)
	p, b := slices.Clone(x.p), slices.Clone(x.b)
	again := opened(t, "again", x.s, p, b, x.z)
	clear(p)
	clear(b)
	clear(x.s.Powers)
	clear(x.s.Blinds)
	x.s.Tau = group.G2{}
	if fmt.Sprint(x.o) != before || fmt.Sprint(again) != before {
		t.Error("it was changed")
	}
	fresh := askedOf(t, 2, 3, 3, 63)
	if fmt.Sprint(fresh.o) != before {
		t.Error("asked behind, it is another one")
	}
}

// One list in several places is as good as several.
func TestListsThatShareMemory(t *testing.T) {
	s, z := made(t, whole(2), whole(3), 5), fr.Of(11)
	list := els(wholes(1, 2, 3, 4, 5, 6))
	was := slices.Clone(list)
	wantAlike(t, "one list twice", opened(t, "one list", s, list, list, z), opened(t, "apart", s, was, slices.Clone(was), z))
	for i := range 6 {
		for j := i; j <= 6; j++ {
			what := fmt.Sprintf("pieces from %d to %d", i, j)
			wantAlike(t, what, opened(t, what, s, list[i:j], list[:i], z), opened(t, what, s, slices.Clone(was[i:j]), slices.Clone(was[:i]), z))
		}
	}
	if !slices.Equal(list, was) {
		t.Error("the list was changed")
	}
	both, apart := &srs.SRS{Powers: s.Powers, Blinds: s.Powers, Tau: s.Tau}, &srs.SRS{Powers: s.Powers, Blinds: slices.Clone(s.Powers), Tau: s.Tau}
	wantAlike(t, "blinds that are the powers", opened(t, "blinds", both, list, list[:2], z), opened(t, "blinds", apart, list, list[:2], z))
	o := opened(t, "blinds", both, list, list[:2], z)
	wantAnswers(t, []question{{"blinds that are the powers", both, committed(t, "blinds", both, list, list[:2]), z, o, true}})
}

// R6
func TestEmptyListsMayBeNil(t *testing.T) {
	s, z := made(t, whole(2), whole(3), 2), whole(10)
	for _, p := range [][]fr.El{nil, {}} {
		for _, b := range [][]fr.El{nil, {}} {
			wantAlike(t, "of none", opened(t, "of none", s, p, b, el(z)), open.Opening{})
		}
		wantAnswer(t, "p alone", opened(t, "p alone", s, els(wholes(1, 1)), p, el(z)), answer{whole(11), whole(0), whole(1)})
		wantAnswer(t, "b alone", opened(t, "b alone", s, p, els(wholes(1, 1)), el(z)), answer{whole(0), whole(11), whole(3)})
	}
	for i, o := range []*srs.SRS{{Powers: []group.G1{}}, {Blinds: []group.G1{}}, {Powers: []group.G1{}, Blinds: []group.G1{}}, {}} {
		refuse(t, fmt.Sprint("the empty setup ", i), o, nil, nil, z, api.ErrArg)
		refuse(t, fmt.Sprint("the empty setup ", i), o, wholes(0, 1), wholes(1), z, api.ErrArg)
		refuseOther(t, fmt.Sprint("the empty setup ", i), o, gen, fr.Of(2), open.Opening{V: fr.Of(1)}, api.ErrArg)
	}
}

// R8: what is refused takes no room, however much there was of it.
func TestRefusedLeavesNoRoom(t *testing.T) {
	points, scalars := make([]group.G1, 1<<15), slices.Repeat(els(wholes(1)), 1<<15+1)
	even := &srs.SRS{Powers: points, Blinds: points}
	uneven, none := &srs.SRS{Powers: points, Blinds: points[1:]}, &srs.SRS{}
	var before, after runtime.MemStats
	runtime.ReadMemStats(&before)
	for range 100 {
		open.Open(even, scalars, nil, fr.Of(1))
		open.Open(even, nil, scalars, fr.Of(1))
		open.Open(even, scalars[1:], scalars, fr.Of(1))
		for _, s := range []*srs.SRS{none, nil, uneven} {
			open.Open(s, scalars, scalars, fr.Of(1))
			open.Open(s, scalars[9:], scalars[9:], fr.Of(1))
			open.Left(s, gen, fr.Of(1), open.Opening{W: gen})
			open.Check(s, gen, fr.Of(1), open.Opening{W: gen})
		}
	}
	runtime.ReadMemStats(&after)
	if more := after.TotalAlloc - before.TotalAlloc; more > 1<<20 {
		t.Errorf("refused calls took %d bytes", more)
	}
}
