package batch_test

import (
	"fmt"
	"runtime"
	"slices"
	"sync"
	"testing"

	"marlinspike/api"
	"marlinspike/batch"
	"marlinspike/fq"
	"marlinspike/fq2"
	"marlinspike/fr"
	"marlinspike/group"
	"marlinspike/open"
	"marlinspike/srs"
)

// R1 to R8 for this layer's calls.

// strange are points that no call told, or that are not of the group.
func strange() (l []group.G1) {
	ns := []fq.El{{}, fq.Of(1), fq.Of(-1), fq.Of(7)}
	for i := range 64 {
		l = append(l, group.G1{X: ns[i%4], Y: ns[i/4%4], Z: ns[i/16]})
	}
	return append(l, outside(), group.Curve1().Add(gen, outside()))
}

// strange2 are the same of G2.
func strange2() (l []group.G2) {
	ns := []fq2.El{{}, fq2.Of(1, 0), fq2.Of(0, -1)}
	for i := range 27 {
		l = append(l, group.G2{X: ns[i%3], Y: ns[i/3%3], Z: ns[i/9]})
	}
	return append(l, gen2)
}

// strangeClaims are claims of such points.
func strangeClaims(n, seed int) (l []batch.Claim) {
	ps := strange()
	for i := range n {
		o := open.Opening{V: fr.Of(int64(i)), B: fr.Of(int64(seed - i)), W: ps[(i*11+seed)%len(ps)]}
		l = append(l, batch.Claim{C: ps[(i*7+seed*5)%len(ps)], Z: fr.Of(int64(i - 2)), O: o})
	}
	return l
}

// R1
func TestNothingPanics(t *testing.T) {
	ps, taus := strange(), strange2()
	setups := append(badSetups(t), nil, new(srs.SRS), made(t, whole(2), whole(3), 2))
	for n := range 6 {
		setups = append(setups, &srs.SRS{Powers: ps[:n], Blinds: ps[60 : 60+n]}, &srs.SRS{Powers: make([]group.G1, n), Blinds: ps[n : 2*n], Tau: taus[n]})
	}
	setups = append(setups, &srs.SRS{Powers: make([]group.G1, 1<<17), Blinds: make([]group.G1, 1<<17)})
	for i, tau := range taus {
		setups = append(setups, &srs.SRS{Powers: ps[20:22], Blinds: ps[30+i : 32+i], Tau: tau})
	}
	together(len(setups), func(i int) {
		for j, x := range []fr.El{{}, fr.Of(1), fr.Of(-7)} {
			for n := range 4 {
				batch.Check(setups[i], strangeClaims(n, i+9*j), x)
			}
			l := strangeClaims(i, j)
			cs, os := parted(l)
			batch.Join(x, cs, os, fr.Of(int64(i)))
			batch.Join(fr.Of(int64(i)), cs, os, x)
			batch.Join(x, cs, os[:len(os)/2], x)
			batch.Join(x, cs[:len(cs)/3], os, x)
			batch.Join(x, nil, os, x)
			batch.Join(x, cs, nil, x)
		}
	})
	many, n := strangeClaims(1, 3), 1<<10
	cs, os := parted(slices.Repeat(many, n))
	batch.Check(setups[len(setups)-1], slices.Repeat(many, n), fr.El{})
	batch.Join(fr.Of(5), cs, os, fr.Of(6))
}

// asked is what both calls are asked.
type asked struct {
	s    *srs.SRS
	l    []batch.Claim
	cs   []group.G1
	os   []open.Opening
	z, x fr.El
}

// askedOf is a question by a setup of two scalars.
func askedOf(t *testing.T, tau, g int64, n int, seed uint64) asked {
	t.Helper()
	s := numbers{state: seed}
	x := asked{s: made(t, whole(tau), whole(g), 2), z: el(s.big()), x: el(s.big())}
	for range n {
		x.l = append(x.l, claimed(t, "asked", x.s, s.bigs(3), s.bigs(2), s.big()))
	}
	x.cs, x.os = parted(x.l)
	return x
}

// answers are what both calls tell, as texts.
func (x asked) answers() (l []string) {
	add := func(what ...any) { l = append(l, fmt.Sprint(what...)) }
	add(batch.Check(x.s, x.l, x.x))
	add(batch.Check(x.s, faulted(x.l, 1, "v"), x.x))
	add(batch.Join(x.z, x.cs, x.os, x.x))
	add(batch.Join(x.z, x.cs, x.os, fr.El{}))
	add(batch.Join(x.z, x.cs[1:], x.os, x.x))
	return l
}

// R2
func TestAnswersHangOnArgumentsAlone(t *testing.T) {
	few, more := askedOf(t, 2, 3, 3, 80), askedOf(t, -5, 7, 4, 81)
	first, second := few.answers(), more.answers()
	for range 2 {
		batch.Check(nil, few.l, few.x)
		batch.Check(&srs.SRS{}, more.l, few.x)
		batch.Check(more.s, few.l, few.x)
		batch.Join(few.z, few.cs, nil, few.x)
		if !slices.Equal(few.answers(), first) || !slices.Equal(more.answers(), second) {
			t.Error("asked again, it is another one")
		}
	}
	same := few
	same.s = &srs.SRS{Powers: slices.Clone(few.s.Powers), Blinds: slices.Clone(few.s.Blinds), Tau: few.s.Tau}
	same.l, same.cs, same.os = slices.Clone(few.l), slices.Clone(few.cs), slices.Clone(few.os)
	if !slices.Equal(same.answers(), first) {
		t.Error("of a setup and lists of the same points it is another one")
	}
}

// What may be asked may be asked by many at once, of the same lists.
func TestManyAtOnce(t *testing.T) {
	x := askedOf(t, 2, 3, 3, 82)
	wanted := x.answers()
	var workers sync.WaitGroup
	for range 8 {
		workers.Go(func() {
			for range 3 {
				if !slices.Equal(x.answers(), wanted) {
					t.Error("at once, it is another one")
				}
			}
		})
	}
	workers.Wait()
}

// What is written to a setup and to lists counts.
func TestWhatIsWrittenCounts(t *testing.T) {
	x := askedOf(t, 2, 3, 3, 83)
	ask := func(what string, is bool) { wantAnswers(t, []question{{what, x.s, x.l, x.x, is}}) }
	ask("as it was", true)
	was := x.l[2]
	x.l[2].O.B = x.l[2].O.B.Add(fr.Of(1))
	ask("another B", false)
	x.l[2] = was
	ask("as it was again", true)
	x.s.Powers[0], x.s.Powers[1] = x.s.Powers[1], x.s.Powers[0]
	ask("other powers", false)
	x.s.Powers[0] = gen
	x.s.Tau = gen2
	ask("another Tau", false)
	before := joined(t, "as it was", x.z, x.cs, x.os, fr.Of(10))
	x.cs[1] = group.Curve1().Add(x.cs[1], gen)
	x.os[2].V = x.os[2].V.Add(fr.Of(3))
	after := joined(t, "written to", x.z, x.cs, x.os, fr.Of(10))
	wantSame(t, "another C", after.C, group.Curve1().Add(before.C, told.tell(whole(10))))
	wantEl(t, "another V", after.O.V, plus(back(before.O.V), whole(300)))
	wantSame(t, "the same W", after.O.W, before.O.W)
}

// room is what lies behind the ends of lists: nobody may touch it.
func room() []group.G1 { return []group.G1{gen, {}, {X: fq.Of(5), Y: fq.Of(6), Z: fq.Of(7)}} }

// roomOs, roomClaims are the same of openings and of claims.
func roomOs() []open.Opening { return []open.Opening{{V: fr.Of(1), W: gen}, {}, {B: fr.Of(-3)}} }
func roomClaims() []batch.Claim {
	return []batch.Claim{{C: gen, Z: fr.Of(4)}, {O: roomOs()[0]}, {}}
}

// roomy is a list with room behind its end.
func roomy[T any](l, room []T) []T {
	long := slices.Concat(l, room)
	return long[:len(l)]
}

// untouched tells whether a list made by roomy is as it was, and its room too.
func untouched[T comparable](l, was, room []T) bool {
	return len(l) == len(was) && slices.Equal(l[:len(was)+len(room)], slices.Concat(was, room))
}

// R3
func TestNothingIsChanged(t *testing.T) {
	long := made(t, whole(2), whole(3), 3)
	setups := []*srs.SRS{{}, long, other(long, 2), exps{wholes(0, 1), wholes(1, 0), whole(2)}.setup(), cut(long, 2, 3), cut(long, 3, 2), cut(long, 1, 1), cut(long, 0, 3)}
	source := numbers{state: 84}
	good := claims(expsOf(whole(2), whole(3), 1).heldBy(&source, 3))
	lists := [][]batch.Claim{nil, good, good[1:2], otherClaims(good, 1), claims(drawn(&source, 2)), make([]batch.Claim, 3), strangeClaims(3, 1)}
	together(len(setups), func(i int) {
		s := setups[i]
		o := &srs.SRS{Powers: roomy(s.Powers, room()), Blinds: roomy(s.Blinds, room()), Tau: s.Tau}
		for j, was := range lists {
			l, csWas, osWas := roomy(was, roomClaims()), []group.G1(nil), []open.Opening(nil)
			csWas, osWas = parted(was)
			cs, os := roomy(csWas, room()), roomy(osWas, roomOs())
			for _, x := range []fr.El{{}, fr.Of(-2)} {
				batch.Check(o, l, x)
				batch.Join(fr.Of(3), cs, os, x)
				batch.Join(fr.Of(3), cs, os[:len(os)/2], x)
				batch.Join(fr.Of(3), cs[:len(cs)/2], os, x)
			}
			if !untouched(l, was, roomClaims()) || !untouched(cs, csWas, room()) || !untouched(os, osWas, roomOs()) {
				t.Errorf("the lists %d were changed", j)
			}
		}
		if !untouched(o.Powers, s.Powers, room()) || !untouched(o.Blinds, s.Blinds, room()) || o.Tau != s.Tau {
			t.Errorf("the setup %d was changed", i)
		}
	})
}

// What was told stays as it is, whatever is written to what it was made of.
func TestNothingIsKept(t *testing.T) {
	x := askedOf(t, 2, 3, 4, 85)
	first := x.answers()
	l := joined(t, "before", x.z, x.cs, x.os, x.x)
	one := joined(t, "of one", x.z, x.cs[:1], x.os[:1], x.x)
	before := fmt.Sprint(l, one)
	clear(x.cs)
	clear(x.os)
	clear(x.l)
	clear(x.s.Powers)
	clear(x.s.Blinds)
	x.s.Tau = group.G2{}
	if fmt.Sprint(l, one) != before {
		t.Error("it was changed")
	}
	if !slices.Equal(askedOf(t, 2, 3, 4, 85).answers(), first) {
		t.Error("asked behind, it is another one")
	}
}

// One list in several places is as good as several.
func TestListsThatShareMemory(t *testing.T) {
	x := askedOf(t, 2, 3, 5, 86)
	twice := slices.Concat(x.l, x.l)
	var l []question
	for i := range 5 {
		for j := i; j <= 5; j++ {
			what := fmt.Sprintf("pieces from %d to %d", i, j)
			apart := joined(t, what, x.z, slices.Clone(x.cs[i:j]), slices.Clone(x.os[i:j]), x.x)
			wantAlike(t, what, joined(t, what, x.z, x.cs[i:j], x.os[i:j], x.x), apart)
			if (i+j)%3 == 0 {
				l = append(l, question{what, x.s, x.l[i:j], x.x, true}, question{what + ", of two lists", x.s, twice[i : 5+j], x.x, true})
			}
		}
	}
	both := &srs.SRS{Powers: x.s.Powers, Blinds: x.s.Powers, Tau: x.s.Tau}
	l = append(l, question{"blinds that are the powers", both, []batch.Claim{claimed(t, "both", both, wholes(1, 2), wholes(3, 4), whole(5))}, x.x, true})
	wantAnswers(t, l)
}

// R4, R6: beside an error nothing is told, and empty lists may be nil.
func TestEmptyListsMayBeNil(t *testing.T) {
	x := fr.Of(7)
	for i, s := range []*srs.SRS{{Powers: []group.G1{}}, {Blinds: []group.G1{}}, {Powers: []group.G1{}, Blinds: []group.G1{}}, {}} {
		for _, l := range [][]batch.Claim{nil, {}, make([]batch.Claim, 2)} {
			refuse(t, fmt.Sprint("the empty setup ", i), s, l, x, api.ErrArg)
		}
	}
	refuse(t, "nil", nil, nil, x, api.ErrNil)
	refuse(t, "nil, of none", nil, []batch.Claim{}, x, api.ErrNil)
	one := []group.G1{gen}
	refuseJoin(t, "nil", fr.Of(3), one, nil, x)
	refuseJoin(t, "empty", fr.Of(3), one, []open.Opening{}, x)
	refuseJoin(t, "nil, the other way", fr.Of(3), nil, roomOs(), x)
	refuseJoin(t, "empty, the other way", fr.Of(3), []group.G1{}, roomOs(), x)
}

// R8: what is refused takes no room, however much there was of it.
func TestRefusedLeavesNoRoom(t *testing.T) {
	points, openings, claims := make([]group.G1, 1<<15), make([]open.Opening, 1<<15), make([]batch.Claim, 1<<15)
	uneven, none := &srs.SRS{Powers: points, Blinds: points[1:]}, &srs.SRS{}
	var before, after runtime.MemStats
	runtime.ReadMemStats(&before)
	for range 100 {
		for _, s := range []*srs.SRS{none, nil, uneven} {
			batch.Check(s, claims, fr.Of(1))
			batch.Check(s, nil, fr.Of(1))
		}
		batch.Join(fr.Of(3), points, openings[1:], fr.Of(1))
		batch.Join(fr.Of(3), points[1:], openings, fr.Of(1))
		batch.Join(fr.Of(3), nil, openings, fr.Of(1))
		batch.Join(fr.Of(3), points, nil, fr.Of(1))
	}
	runtime.ReadMemStats(&after)
	if more := after.TotalAlloc - before.TotalAlloc; more > 1<<20 {
		t.Errorf("refused calls took %d bytes", more)
	}
}
