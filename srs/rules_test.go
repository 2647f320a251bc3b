package srs_test

import (
	"bytes"
	"fmt"
	"math"
	"math/big"
	"runtime"
	"slices"
	"sync"
	"testing"

	"marlinspike/api"
	"marlinspike/fq"
	"marlinspike/fq2"
	"marlinspike/fr"
	"marlinspike/group"
	"marlinspike/srs"
)

// R1 to R8 for this layer's calls.

// strange are points that no call told, or that are not of the groups.
func strange() (l []group.G1, m []group.G2) {
	ns, ms := []fq.El{{}, fq.Of(1), fq.Of(-1), fq.Of(7)}, []fq2.El{{}, fq2.Of(1, 0), fq2.Of(0, -1), fq2.Of(7, 3)}
	for i := range 64 {
		l = append(l, group.G1{X: ns[i%4], Y: ns[i/4%4], Z: ns[i/16]})
		m = append(m, group.G2{X: ms[i%4], Y: ms[i/4%4], Z: ms[i/16]})
	}
	p, _ := group.Curve1().Of(fq.Of(2), fq.Of(3))
	return append(l, p, group.Curve1().Add(gen1, p)), m
}

// every asks all calls of a setup.
func every(s *srs.SRS) {
	s.Degree()
	s.Good()
	s.Bytes()
	for _, n := range append(wrongDegrees(), 1, 2, 3, api.MaxPower) {
		s.Trim(n)
	}
}

// R1
func TestNothingPanics(t *testing.T) {
	every(nil)
	every(&srs.SRS{})
	every(new(srs.SRS))
	ps, qs := strange()
	for powers := range 5 {
		for blinds := range 5 {
			every(&srs.SRS{Powers: ps[:powers], Blinds: ps[60 : 60+blinds]})
			every(&srs.SRS{Powers: slices.Repeat([]group.G1{gen1}, powers), Blinds: make([]group.G1, blinds), Tau: gen2})
		}
	}
	for i, p := range ps {
		q := qs[i%len(qs)]
		if i%3 > 0 && i < 60 {
			continue // to ask takes long
		}
		every(&srs.SRS{Powers: []group.G1{p, p}, Blinds: []group.G1{p, gen1}, Tau: q})
		every(&srs.SRS{Powers: []group.G1{gen1, p}, Blinds: []group.G1{gen1, gen1}, Tau: gen2})
		every(&srs.SRS{Powers: []group.G1{gen1, gen1}, Blinds: []group.G1{p, ps[(i*7)%len(ps)]}, Tau: gen2})
		every(&srs.SRS{Powers: []group.G1{gen1, gen1}, Blinds: []group.G1{gen1, gen1}, Tau: q})
	}
	every(&srs.SRS{Powers: make([]group.G1, 1<<17), Blinds: make([]group.G1, 1<<17)})
	for _, n := range append(wrongDegrees(), 1, 2) {
		for _, x := range []fr.El{{}, fr.Of(1), fr.Of(-1), fr.Of(math.MinInt64)} {
			srs.New(x, fr.Of(3), n)
			srs.New(fr.Of(3), x, n)
		}
	}
	s := numbers{state: 6}
	for length := range 600 {
		b := make([]byte, length)
		srs.Get(b)
		for i := range b {
			b[i] = byte(s.word())
		}
		srs.Get(b)
		if length > 1 {
			b[0], b[1] = 0, byte(s.below(6))
			srs.Get(b)
		}
	}
	srs.Get(nil)
	srs.Get(make([]byte, 1<<22))
	srs.Get(bytes.Repeat([]byte{1}, 1<<22))
}

// answers are what all calls tell of a setup's secrets and of bytes.
func answers(t *testing.T, tau, g *big.Int, n int) []string {
	t.Helper()
	s := made(t, tau, g, n)
	b := bytesOf(t, s)
	short, e := s.Trim(1)
	l := []string{string(b), fmt.Sprint(e, s.Degree(), s.Good()), string(bytesOf(t, short)), string(bytesOf(t, got(t, b)))}
	for i := range 2*n + 3 {
		bad, _ := spoilt(b, i, n, i%5)
		_, e := srs.Get(bad)
		l = append(l, e.Error())
	}
	return l
}

// R2
func TestAnswersHangOnArgumentsAlone(t *testing.T) {
	before := answers(t, whole(2), whole(3), 2)
	otherOnes := answers(t, whole(5), minus(3), 1)
	for range 2 {
		srs.New(fr.Of(0), fr.Of(3), 2)
		srs.Get([]byte{0, 1, 2})
		if !slices.Equal(answers(t, whole(2), whole(3), 2), before) || !slices.Equal(answers(t, whole(5), minus(3), 1), otherOnes) {
			t.Error("asked again, it is another one")
		}
	}
}

// A setup's own points may be written to: what it tells hangs on them alone.
func TestWhatIsWrittenToASetupCounts(t *testing.T) {
	s := made(t, whole(2), whole(3), 2)
	if !s.Good() {
		t.Error("it is not good")
	}
	s.Powers[2] = gen1
	x := exps{wholes(1, 2, 1), wholes(3, 6, 12), whole(2)}
	if s.Good() || !bytes.Equal(bytesOf(t, s), x.text()) {
		t.Error("what was written to it does not count")
	}
	s.Powers[2] = group.Mul1(gen1, fr.Of(4))
	if !s.Good() {
		t.Error("written back, it is not good")
	}
	s.Blinds = s.Blinds[:2]
	if s.Good() || s.Degree() != 2 {
		t.Error("with a blind less it is good")
	}
	s.Powers = s.Powers[:2]
	if !s.Good() || s.Degree() != 1 {
		t.Error("with a power less, too, it is not good")
	}
}

func TestManyAtOnce(t *testing.T) {
	wanted := answers(t, whole(2), whole(3), 2)
	shared := made(t, whole(4), whole(5), 3)
	b := bytesOf(t, shared)
	var workers sync.WaitGroup
	for range 8 {
		workers.Go(func() {
			if !slices.Equal(answers(t, whole(2), whole(3), 2), wanted) {
				t.Error("at once, it is another one")
			}
			for n := 1; n <= 3; n++ { // what is only asked may be asked by many
				s, e := shared.Trim(n)
				if e != api.OK || !s.Good() || !bytes.Equal(bytesOf(t, shared), b) || got(t, b).Degree() != 3 {
					t.Errorf("at once: %v", e)
				}
			}
		})
	}
	workers.Wait()
}

// room is what lies behind the ends of lists: nobody may touch it.
func room() []group.G1 { return []group.G1{gen1, {}, {X: fq.Of(5), Y: fq.Of(6), Z: fq.Of(7)}} }

// roomy is the same setup, with room behind its lists' ends.
func roomy(s *srs.SRS) *srs.SRS {
	powers, blinds := slices.Concat(s.Powers, room()), slices.Concat(s.Blinds, room())
	return &srs.SRS{Powers: powers[:len(s.Powers)], Blinds: blinds[:len(s.Blinds)], Tau: s.Tau}
}

// untouched tells whether a setup made by roomy is as it was, and its room too.
func untouched(o, s *srs.SRS) bool {
	all := func(l, was []group.G1) bool {
		return len(l) == len(was) && slices.Equal(l[:len(was)+len(room())], slices.Concat(was, room()))
	}
	return all(o.Powers, s.Powers) && all(o.Blinds, s.Blinds) && o.Tau == s.Tau
}

// R3
func TestSetupsAreNotChanged(t *testing.T) {
	l := []*srs.SRS{{}, made(t, whole(2), whole(3), 1), other(made(t, whole(7), minus(3), 4), 3), exps{wholes(1, 0, 3), wholes(0, 0, 0), whole(0)}.setup()}
	long := made(t, whole(2), whole(3), 3)
	l = append(l, cut(long, 3, 2), cut(long, 2, 3), cut(long, 1, 1), cut(long, 0, 4))
	for i, s := range l {
		o := roomy(s)
		every(o)
		o.Trim(1)
		if !untouched(o, s) {
			t.Errorf("the setup %d was changed", i)
		}
	}
}

func TestBytesAreNotChanged(t *testing.T) {
	right := expsOf(whole(2), whole(3), 2).text()
	l := [][]byte{nil, {1}, {0, 0}, {64, 1}, right, right[:100], append(slices.Clone(right), 1)}
	for i := range 7 {
		bad, _ := spoilt(right, i, 2, i%5)
		l = append(l, bad)
	}
	for i, b := range l {
		for _, filled := range []byte{0, 128, 255} {
			behind := bytes.Repeat([]byte{filled}, 300)
			o := slices.Concat(b, behind)
			s, e := srs.Get(o[:len(b)])
			if !bytes.Equal(o, slices.Concat(b, behind)) {
				t.Errorf("the bytes %d were changed", i)
			}
			if (e == api.OK) != (i == 4) {
				t.Errorf("the bytes %d, with room behind: %v", i, e)
			}
			for j := range o {
				o[j] ^= 0xa5
			}
			if i == 4 {
				want(t, "behind what was written to the bytes", s, expsOf(whole(2), whole(3), 2))
			}
		}
	}
}

// spoil writes to all points of lists, and to the room behind them.
func spoil(lists ...[]group.G1) {
	for _, l := range lists {
		for i := range l[:cap(l)] {
			l[:cap(l)][i] = group.G1{X: fq.Of(9), Y: fq.Of(8), Z: fq.Of(7)}
		}
	}
}

// R3: what is handed out is new memory.
func TestAnswersAreApart(t *testing.T) {
	x := expsOf(whole(2), whole(3), 4)
	short := expsOf(whole(2), whole(3), 2)
	s := made(t, whole(2), whole(3), 4)
	b := bytesOf(t, s)
	a, _ := s.Trim(2)
	o, _ := s.Trim(4)
	spoil(a.Powers, a.Blinds)
	want(t, "behind what was written to a trimmed one", s, x)
	want(t, "and to another one", o, x)
	a, _ = s.Trim(2)
	spoil(s.Powers, s.Blinds)
	want(t, "trimmed, behind what was written to it", a, short)
	want(t, "trimmed to all of it", o, x)
	if !bytes.Equal(b, x.text()) {
		t.Error("bytes show what was written to the setup")
	}
	s = made(t, whole(2), whole(3), 4)
	want(t, "made again", s, x)
	for i := range b[:cap(b)] {
		b[:cap(b)][i] = 9
	}
	want(t, "behind what was written to its bytes", s, x)
	if !bytes.Equal(bytesOf(t, s), x.text()) {
		t.Error("what was written to bytes shows in those told again")
	}
	want(t, "read, behind it", got(t, bytesOf(t, s)), x)
}

// R3: no two lists of a setup share any, nor the room behind their ends.
func TestListsAreApart(t *testing.T) {
	for _, n := range []int{1, 2, 3, 4, 7, 8, 20} {
		x := expsOf(whole(2), whole(3), n)
		long := made(t, whole(2), whole(3), n+1)
		for kind := range 3 {
			make := func() *srs.SRS {
				switch kind {
				case 0:
					return made(t, whole(2), whole(3), n)
				case 1:
					return got(t, x.text())
				}
				s, _ := long.Trim(n)
				return s
			}
			s := make()
			spoil(s.Powers)
			s.Powers = slices.Clone(make().Powers)
			want(t, fmt.Sprint("behind what was written to the powers, of the kind ", kind), s, x)
			s = make()
			spoil(s.Blinds)
			s.Blinds = slices.Clone(make().Blinds)
			want(t, fmt.Sprint("behind what was written to the blinds, of the kind ", kind), s, x)
		}
		want(t, "the long one", long, expsOf(whole(2), whole(3), n+1))
	}
}

// R6
func TestEmptyListsMayBeNil(t *testing.T) {
	for _, s := range []*srs.SRS{{Powers: []group.G1{}}, {Blinds: []group.G1{}}, {Powers: []group.G1{}, Blinds: []group.G1{}, Tau: gen2}, {}} {
		_, trim := s.Trim(0)
		_, e := s.Bytes()
		if s.Degree() != -1 || s.Good() || trim != api.ErrDegree || e != api.ErrArg {
			t.Errorf("%v: %d, %v, %v", s, s.Degree(), trim, e)
		}
	}
	refuse(t, "no bytes", []byte{}, api.ErrShort)
	refuse(t, "nil", nil, api.ErrShort)
}

// R8: what is refused takes no room, however much there was of it.
func TestRefusedLeavesNoRoom(t *testing.T) {
	n := api.MaxPower
	right := 2 + 96*(n+2)
	first := counted(n, right)
	short, long, wrong := counted(n, right-1), counted(n, right+1), counted(n+1, right+96)
	s := &srs.SRS{Powers: make([]group.G1, n+2), Blinds: make([]group.G1, n+2)}
	var before, after runtime.MemStats
	runtime.ReadMemStats(&before)
	for range 100 {
		for _, b := range [][]byte{first, short, long, wrong, {64, 0}} {
			srs.Get(b)
		}
		srs.New(fr.Of(0), fr.Of(1), n)
		srs.New(fr.Of(1), fr.Of(0), n)
		srs.New(fr.Of(1), fr.Of(1), n+1)
		s.Bytes()
		s.Good()
		s.Trim(n + 2)
		s.Trim(0)
	}
	runtime.ReadMemStats(&after)
	if more := after.TotalAlloc - before.TotalAlloc; more > 1<<20 {
		t.Errorf("refused calls took %d bytes", more)
	}
}
