package commit_test

import (
	"fmt"
	"math"
	"math/big"
	"runtime"
	"slices"
	"sync"
	"testing"

	"marlinspike/api"
	"marlinspike/commit"
	"marlinspike/fq"
	"marlinspike/fr"
	"marlinspike/group"
	"marlinspike/srs"
)

// R1 to R8 for this layer's calls.

// strange are points that no call told, or that are not of the group.
func strange() (l []group.G1) {
	ns := []fq.El{{}, fq.Of(1), fq.Of(-1), fq.Of(7)}
	for i := range 64 {
		l = append(l, group.G1{X: ns[i%4], Y: ns[i/4%4], Z: ns[i/16]})
	}
	return append(l, outside(), group.Curve1().Add(gen, outside()))
}

// R1
func TestNothingPanics(t *testing.T) {
	ps := strange()
	setups := append(badSetups(t), nil, new(srs.SRS), made(t, whole(2), whole(3), 2))
	for n := range 6 {
		setups = append(setups, &srs.SRS{Powers: ps[:n], Blinds: ps[60 : 60+n]}, &srs.SRS{Powers: make([]group.G1, n), Blinds: ps[n : 2*n]})
	}
	setups = append(setups, &srs.SRS{Powers: ps, Blinds: slices.Concat(ps[30:], ps[:30])}, &srs.SRS{Powers: make([]group.G1, 1<<17), Blinds: make([]group.G1, 1<<17)})
	lists := append(polys(some(4)), els(zeros(1<<17)), slices.Repeat(els(wholes(1)), 66), slices.Repeat(els(wholes(-1)), 67))
	together(len(setups), func(i int) {
		for j, p := range lists {
			commit.Commit(setups[i], p, lists[(j*3+i)%len(lists)])
			for _, d := range append(badBounds(5), 0, 1, 2, 3, 4, 5, 65) {
				commit.Shifted(setups[i], p, d)
			}
		}
	})
	for _, x := range bys() {
		commit.Fold(ps, el(x))
		commit.Fold(slices.Repeat([]group.G1{{}}, 1<<10), el(x))
		commit.FoldPoly(lists, el(x))
		commit.FoldPoly(make([][]fr.El, 1<<10), el(x))
		commit.FoldEl(lists[len(lists)-1], el(x))
	}
}

// answers are what all calls tell, as texts.
func answers(s *srs.SRS, p, b, x []*big.Int) (l []string) {
	add := func(what ...any) { l = append(l, fmt.Sprint(what...)) }
	add(commit.Commit(s, els(p), els(b)))
	add(commit.Commit(s, els(b), nil))
	for d := range 4 {
		add(commit.Shifted(s, els(p), d))
	}
	for _, k := range x {
		add(commit.Fold(all(p), el(k)), commit.FoldEl(els(b), el(k)), commit.FoldPoly([][]fr.El{els(p), els(b), els(x)}, el(k)))
	}
	return l
}

// R2
func TestAnswersHangOnArgumentsAlone(t *testing.T) {
	few, more := made(t, whole(2), whole(3), 3), made(t, minus(5), whole(7), 2)
	s := numbers{state: 30}
	p, b, x := s.bigs(3), s.bigs(2), s.bigs(2)
	first, second := answers(few, p, b, x), answers(more, b, p, x)
	for range 2 {
		commit.Commit(nil, els(p), nil)
		commit.Commit(few, els(s.bigs(9)), nil)
		commit.Shifted(more, els(p), 9)
		commit.Fold(nil, fr.Of(3))
		if !slices.Equal(answers(few, p, b, x), first) || !slices.Equal(answers(more, b, p, x), second) {
			t.Error("asked again, it is another one")
		}
	}
	same := &srs.SRS{Powers: slices.Clone(few.Powers), Blinds: slices.Clone(few.Blinds)} // without Tau
	if !slices.Equal(answers(same, p, b, x), first) {
		t.Error("of a setup of the same points it is another one")
	}
}

// What may be asked may be asked by many at once, of the same lists.
func TestManyAtOnce(t *testing.T) {
	o, s := made(t, whole(2), whole(3), 3), numbers{state: 31}
	p, b, x := s.bigs(4), s.bigs(3), s.bigs(2)
	wanted := answers(o, p, b, x)
	lists, ps := polys([][]*big.Int{p, b, x}), all(p)
	first, folded := committed(t, "first", o, lists[0], lists[1]), commit.FoldPoly(lists, fr.Of(7))
	var workers sync.WaitGroup
	for range 8 {
		workers.Go(func() {
			if !slices.Equal(answers(o, p, b, x), wanted) {
				t.Error("at once, it is another one")
			}
			for range 10 {
				wantSame(t, "at once", committed(t, "at once", o, lists[0], lists[1]), first)
				wantSame(t, "at once", commit.Fold(ps, fr.Of(7)), commit.Fold(all(p), fr.Of(7)))
				if !slices.Equal(commit.FoldPoly(lists, fr.Of(7)), folded) {
					t.Error("at once, the fold is another one")
				}
			}
		})
	}
	workers.Wait()
}

// What is written to a setup and to lists counts.
func TestWhatIsWrittenCounts(t *testing.T) {
	s, p := made(t, whole(2), whole(3), 2), els(wholes(1, 0, 1))
	want(t, "as it was", committed(t, "as it was", s, p, nil), whole(5))
	s.Powers[2] = gen
	want(t, "another power", committed(t, "another power", s, p, nil), whole(2))
	p[1] = fr.Of(10)
	want(t, "another scalar", committed(t, "another scalar", s, p, nil), whole(22))
	s.Powers, s.Blinds = s.Powers[1:], s.Blinds[1:]
	want(t, "without the first", shifted(t, "without the first", s, p[:1], 0), whole(1))
	want(t, "blinded", committed(t, "blinded", s, nil, p[:2]), plus(whole(6), whole(120)))
}

// room is what lies behind the ends of lists: nobody may touch it.
func room() []group.G1 { return []group.G1{gen, {}, {X: fq.Of(5), Y: fq.Of(6), Z: fq.Of(7)}} }

// roomEl is the same of scalars.
func roomEl() []fr.El { return els(wholes(9, 0, -8, 7)) }

// roomy is a list with room behind its end.
func roomy[T any](l, room []T) []T {
	long := slices.Concat(l, room)
	return long[:len(l)]
}

// untouched tells whether a list made by roomy is as it was, and its room too.
func untouched[T comparable](l, was, room []T) bool {
	return len(l) == len(was) && slices.Equal(l[:len(was)+len(room)], slices.Concat(was, room))
}

// R3
func TestNothingIsChanged(t *testing.T) {
	long := made(t, whole(2), whole(3), 3)
	setups := []*srs.SRS{{}, long, other(long, 2), exps{wholes(0, 1), wholes(1, 0)}.setup(), cut(long, 2, 3), cut(long, 3, 2), cut(long, 1, 1), cut(long, 0, 3)}
	l := polys(append(some(4), wholes(0, 0, 0, 0, 1)))
	for i, s := range setups {
		o := &srs.SRS{Powers: roomy(s.Powers, room()), Blinds: roomy(s.Blinds, room()), Tau: s.Tau}
		for j := range l {
			p, b := roomy(l[j], roomEl()), roomy(l[(j*3+i)%len(l)], roomEl())
			commit.Commit(o, p, b)
			for d := range 6 {
				commit.Shifted(o, p, d-1)
			}
			if !untouched(p, l[j], roomEl()) || !untouched(b, l[(j*3+i)%len(l)], roomEl()) {
				t.Errorf("the lists %d were changed", j)
			}
		}
		if !untouched(o.Powers, s.Powers, room()) || !untouched(o.Blinds, s.Blinds, room()) || o.Tau != s.Tau {
			t.Errorf("the setup %d was changed", i)
		}
	}
}

func TestFoldsChangeNothing(t *testing.T) {
	for i, ks := range folded() {
		was, xs := others(all(ks), i), els(ks)
		ps, l := roomy(was, room()), roomy(xs, roomEl())
		for _, x := range bys() {
			commit.Fold(ps, el(x))
			commit.FoldEl(l, el(x))
		}
		if !untouched(ps, was, room()) || !untouched(l, xs, roomEl()) {
			t.Errorf("the list %d was changed", i)
		}
	}
	for i, was := range foldedLists() {
		behind := roomy(els(wholes(5, 6)), roomEl())
		l := [][]fr.El{}
		for _, p := range was {
			l = append(l, roomy(els(p), roomEl()))
		}
		l = roomy(l, [][]fr.El{behind, nil, behind})
		for _, x := range bys() {
			commit.FoldPoly(l, el(x))
		}
		for j, p := range l {
			if !untouched(p, els(was[j]), roomEl()) {
				t.Errorf("the polynomial %d of the list %d was changed", j, i)
			}
		}
		tail := l[:len(l)+3][len(l):]
		if len(tail[0]) != 2 || &tail[0][0] != &behind[0] || tail[1] != nil || len(tail[2]) != 2 || !untouched(behind, els(wholes(5, 6)), roomEl()) {
			t.Errorf("the room behind the list %d was changed", i)
		}
	}
}

// spoil writes to all of a list, and to the room behind it.
func spoil(l []fr.El) {
	for i := range l[:cap(l)] {
		l[:cap(l)][i] = fr.Of(77)
	}
}

// R3: what is handed out shares nothing with what was handed in, of one polynomial too,
// and by 1.
func TestFoldedAreApart(t *testing.T) {
	for i, was := range foldedLists() {
		for _, x := range bys() {
			wanted := foldLists(was, x)
			var l [][]fr.El
			for _, p := range was {
				l = append(l, roomy(els(p), roomEl()))
			}
			got, again := commit.FoldPoly(l, el(x)), commit.FoldPoly(l, el(x))
			spoil(got)
			for j, p := range l {
				if !untouched(p, els(was[j]), roomEl()) {
					t.Errorf("the lists %d by %v: the answer lies in what was handed in", i, x)
				}
			}
			wantPoly(t, fmt.Sprintf("the lists %d by %v, asked once more", i, x), again, wanted)
			last := commit.FoldPoly(l, el(x))
			wantPoly(t, fmt.Sprintf("the lists %d by %v, asked behind", i, x), last, wanted)
			for _, p := range l {
				spoil(p)
			}
			wantPoly(t, fmt.Sprintf("the lists %d by %v, written to", i, x), last, wanted)
			if grown := append(last, fr.Of(5)); len(grown) > 1 && !slices.Equal(grown[:len(last)], els(wanted[:count(wanted)])) {
				t.Errorf("the lists %d by %v, longer", i, x)
			}
		}
	}
}

// One list in several places is as good as several.
func TestListsThatShareMemory(t *testing.T) {
	s := made(t, whole(2), whole(3), 5)
	list := els(wholes(1, 2, 3, 4, 5, 6))
	was := slices.Clone(list)
	c := committed(t, "one list", s, list, list)
	wantSame(t, "one list twice", c, committed(t, "apart", s, was, slices.Clone(was)))
	for i := range 6 {
		for j := i; j <= 6; j++ {
			wanted := foldLists([][]*big.Int{backs(was[i:j]), backs(was), backs(was[i:j]), backs(was[:i])}, whole(7))
			wantPoly(t, fmt.Sprintf("pieces from %d to %d", i, j), commit.FoldPoly([][]fr.El{list[i:j], list, list[i:j], list[:i]}, fr.Of(7)), wanted)
			wantSame(t, fmt.Sprintf("pieces from %d to %d", i, j), committed(t, "pieces", s, list[i:j], list[:i]), committed(t, "apart", s, slices.Clone(was[i:j]), slices.Clone(was[:i])))
		}
	}
	if !slices.Equal(list, was) {
		t.Error("the list was changed")
	}
	both := &srs.SRS{Powers: s.Powers, Blinds: s.Powers}
	wantSame(t, "blinds that are the powers", committed(t, "blinds", both, list, list), committed(t, "twice", s, commit.FoldPoly([][]fr.El{list, list}, fr.Of(1)), nil))
}

// R6
func TestEmptyListsMayBeNil(t *testing.T) {
	s := made(t, whole(2), whole(3), 2)
	for _, p := range [][]fr.El{nil, {}} {
		for _, b := range [][]fr.El{nil, {}} {
			wantSame(t, "of none", committed(t, "of none", s, p, b), group.G1{})
		}
		want(t, "p alone", committed(t, "p alone", s, els(wholes(1, 1)), p), whole(3))
		want(t, "b alone", committed(t, "b alone", s, p, els(wholes(1, 1))), whole(9))
		wantSame(t, "shifted", shifted(t, "shifted", s, p, 1), group.G1{})
		wantPoly(t, "among others", commit.FoldPoly([][]fr.El{p, els(wholes(1)), p}, fr.Of(3)), wholes(3))
	}
	for i, o := range []*srs.SRS{{Powers: []group.G1{}}, {Blinds: []group.G1{}}, {Powers: []group.G1{}, Blinds: []group.G1{}}, {}} {
		refuse(t, fmt.Sprint("the empty setup ", i), o, nil, nil, api.ErrArg)
		refuseShifted(t, fmt.Sprint("the empty setup ", i), o, nil, 0, api.ErrArg)
		refuseShifted(t, fmt.Sprint("the empty setup ", i), o, nil, -1, api.ErrArg)
	}
}

// R8: what is refused takes no room, however much there was of it.
func TestRefusedLeavesNoRoom(t *testing.T) {
	points, scalars := make([]group.G1, 1<<15), slices.Repeat(els(wholes(1)), 1<<15+1)
	whole := &srs.SRS{Powers: points, Blinds: points}
	uneven, none := &srs.SRS{Powers: points, Blinds: points[1:]}, &srs.SRS{}
	var before, after runtime.MemStats
	runtime.ReadMemStats(&before)
	for range 100 {
		commit.Commit(whole, scalars, nil)
		commit.Commit(whole, nil, scalars)
		commit.Commit(whole, scalars[1:], scalars)
		commit.Commit(uneven, scalars[9:], scalars[9:])
		for _, s := range []*srs.SRS{none, nil, uneven} {
			commit.Commit(s, scalars, scalars)
			commit.Shifted(s, scalars, 1<<15)
		}
		commit.Shifted(whole, scalars, 1<<15-1)
		commit.Shifted(whole, scalars[9:], 1)
		commit.Shifted(whole, scalars[9:], 1<<15)
		commit.Shifted(whole, nil, math.MaxInt)
		commit.Shifted(whole, nil, math.MinInt)
	}
	runtime.ReadMemStats(&after)
	if more := after.TotalAlloc - before.TotalAlloc; more > 1<<20 {
		t.Errorf("refused calls took %d bytes", more)
	}
}
