package update_test

import (
	"bytes"
	"fmt"
	"math"
	"math/big"
	"runtime"
	"slices"
	"sync"
	"testing"

	"marlinspike/api"
	"marlinspike/fq"
	"marlinspike/fq2"
	"marlinspike/fr"
	"marlinspike/group"
	"marlinspike/srs"
	"marlinspike/update"
)

// R1 to R8 for this layer's calls.

// strange are points that no call told, or that are not of the groups.
func strange() (l []group.G1, m []group.G2) {
	ns, ms := []fq.El{{}, fq.Of(1), fq.Of(-1), fq.Of(7)}, []fq2.El{{}, fq2.Of(1, 0), fq2.Of(0, -1), fq2.Of(7, 3)}
	for i := range 64 {
		l = append(l, group.G1{X: ns[i%4], Y: ns[i/4%4], Z: ns[i/16]})
		m = append(m, group.G2{X: ms[i%4], Y: ms[i/4%4], Z: ms[i/16]})
	}
	return append(l, outside1(), group.Curve1().Add(gen1, outside1())), append(m, outside2(), group.Curve2().Add(gen2, outside2()))
}

// R1
func TestNothingPanics(t *testing.T) {
	ps, qs := strange()
	good := made(t, whole(2), whole(3), 1)
	setups := []*srs.SRS{nil, {}, new(srs.SRS), good}
	for powers := range 4 {
		for blinds := range 4 {
			setups = append(setups, &srs.SRS{Powers: ps[:powers], Blinds: ps[60 : 60+blinds]})
			setups = append(setups, &srs.SRS{Powers: slices.Repeat([]group.G1{gen1}, powers), Blinds: make([]group.G1, blinds), Tau: gen2})
		}
	}
	setups = append(setups, &srs.SRS{Powers: make([]group.G1, 1<<17), Blinds: make([]group.G1, 1<<17)})
	for _, d := range []fr.El{{}, fr.Of(1), fr.Of(-1), fr.Of(math.MinInt64)} {
		for _, s := range setups {
			update.Update(s, d)
		}
	}
	all := steps(hopsOf(whole(2), whole(5)))
	together(len(setups), func(i int) {
		for _, to := range setups {
			update.Chain(setups[i], to, all)
			update.Chain(setups[i], to, nil)
			update.Chain(setups[i], to, make([]update.Step, 1<<12))
		}
	})
	together(len(ps), func(i int) {
		p, q := ps[i], qs[i%len(qs)]
		s := &srs.SRS{Powers: []group.G1{gen1, p}, Blinds: []group.G1{p, gen1}, Tau: q}
		o, step, _ := update.Update(s, fr.Of(5))
		update.Chain(s, o, []update.Step{step})
		update.Chain(s, s, nil)
		update.Chain(good, s, []update.Step{{A: p, D: q}})
		update.Chain(good, good, []update.Step{{A: p, D: gen2}, {A: gen1, D: q}, {A: p, D: q}})
		b, _ := update.Bytes([]update.Step{{A: p, D: q}})
		update.Get(b)
	})
}

// R1
func TestNoBytesPanic(t *testing.T) {
	s := numbers{state: 6}
	right := expsOf(whole(2), whole(3), 1).text()
	for length := range 600 {
		b := make([]byte, length)
		update.Get(b)
		update.Check(b, b, b)
		for i := range b {
			b[i] = byte(s.word())
		}
		update.Get(b)
		update.Check(b, right, b)
		if length > 0 {
			b[0] = byte(s.below(6))
			update.Get(b)
		}
		if length%11 == 0 { // to read points takes long
			update.Check(right, b, b)
			update.Check(right, right, b)
		}
	}
	update.Get(nil)
	update.Check(nil, nil, nil)
	update.Get(make([]byte, 1<<22))
	update.Get(bytes.Repeat([]byte{1}, 1<<22))
	update.Check(bytes.Repeat([]byte{1}, 1<<22), make([]byte, 1<<22), make([]byte, 1<<22))
}

// answers are what all calls tell of a setup's secrets and of what it is updated by.
func answers(t *testing.T, tau, g, d *big.Int, n int) []string {
	t.Helper()
	s := made(t, tau, g, n)
	o, step := updated(t, s, d)
	b := stepsBytes(t, []update.Step{step, step})
	l := []string{string(bytesOf(t, o)), string(b), string(stepsBytes(t, got(t, b)))}
	for _, e := range []api.Errno{
		update.Chain(s, o, []update.Step{step}), update.Chain(o, s, []update.Step{step}), update.Chain(s, s, nil), update.Chain(s, o, nil),
		update.Check(bytesOf(t, s), bytesOf(t, o), stepsBytes(t, []update.Step{step})), update.Check(bytesOf(t, s), bytesOf(t, o), b),
	} {
		l = append(l, e.Error())
	}
	for i := range 4 {
		bad, _ := spoilt(b, i, i)
		_, e := update.Get(bad)
		l = append(l, e.Error())
	}
	return l
}

// R2
func TestAnswersHangOnArgumentsAlone(t *testing.T) {
	before := answers(t, whole(2), whole(3), whole(5), 1)
	otherOnes := answers(t, whole(5), minus(3), whole(-7), 2)
	for range 2 {
		update.Update(nil, fr.Of(3))
		update.Update(made(t, whole(2), whole(3), 1), fr.Of(0))
		update.Chain(nil, nil, nil)
		update.Get([]byte{1, 1, 2})
		update.Check(nil, nil, nil)
		if !slices.Equal(answers(t, whole(2), whole(3), whole(5), 1), before) || !slices.Equal(answers(t, whole(5), minus(3), whole(-7), 2), otherOnes) {
			t.Error("asked again, it is another one")
		}
	}
}

func TestManyAtOnce(t *testing.T) {
	wanted := answers(t, whole(2), whole(3), whole(5), 1)
	x := runOf(t, whole(4), whole(5), 1, wholes(3, -8)...)
	b := stepsBytes(t, x.steps)
	var workers sync.WaitGroup
	for range 8 {
		workers.Go(func() {
			if !slices.Equal(answers(t, whole(2), whole(3), whole(5), 1), wanted) {
				t.Error("at once, it is another one")
			}
			o, _ := updated(t, x.setups[1], whole(-8)) // what is only asked may be asked by many
			if e := update.Chain(x.setups[0], o, x.steps); e != api.OK || !bytes.Equal(stepsBytes(t, x.steps), b) || len(got(t, b)) != 2 {
				t.Errorf("at once: %v", e)
			}
		})
	}
	workers.Wait()
}

// room is what lies behind the ends of lists: nobody may touch it.
func room() []group.G1 { return []group.G1{gen1, {}, {X: fq.Of(5), Y: fq.Of(6), Z: fq.Of(7)}} }

// roomy is the same setup, with room behind its lists' ends.
func roomy(s *srs.SRS) *srs.SRS {
	powers, blinds := slices.Concat(s.Powers, room()), slices.Concat(s.Blinds, room())
	return &srs.SRS{Powers: powers[:len(s.Powers)], Blinds: blinds[:len(s.Blinds)], Tau: s.Tau}
}

// untouched tells whether a setup made by roomy is as it was, and its room too.
func untouched(o, s *srs.SRS) bool {
	all := func(l, was []group.G1) bool {
		return len(l) == len(was) && slices.Equal(l[:len(was)+len(room())], slices.Concat(was, room()))
	}
	return all(o.Powers, s.Powers) && all(o.Blinds, s.Blinds) && o.Tau == s.Tau
}

// R3
func TestSetupsAndStepsAreNotChanged(t *testing.T) {
	good, end := made(t, whole(2), whole(3), 2), made(t, whole(10), whole(3), 2)
	l := []*srs.SRS{{}, good, end, other(end, 3), exps{wholes(1, 0, 3), wholes(0, 0, 0), whole(0)}.setup(), cut(good, 3, 2), cut(good, 2, 3), cut(good, 1, 1), cut(good, 0, 3)}
	for _, hops := range [][]hop{nil, hopsOf(whole(2), whole(5)), hopsOf(whole(2), whole(5), whole(1)), drawn(1, 40)} {
		was := append(steps(hops), steps(drawn(2, 5))...)
		all := slices.Clone(was)[:len(hops)]
		for i, s := range l {
			for j, y := range l {
				o, to := roomy(s), roomy(y)
				for _, d := range []fr.El{{}, fr.Of(5)} {
					update.Update(o, d)
				}
				update.Chain(o, to, all)
				update.Bytes(all)
				if !untouched(o, s) || !untouched(to, y) || !slices.Equal(all[:len(was)], was) {
					t.Errorf("the setup %d, the setup %d, or %d steps were changed", i, j, len(hops))
				}
			}
		}
	}
}

func TestBytesAreNotChanged(t *testing.T) {
	from, to, right := expsOf(whole(2), whole(3), 1).text(), expsOf(whole(10), whole(3), 1).text(), hopTexts(hopsOf(whole(2), whole(5)))
	l := [][]byte{nil, {1}, {0}, {33}, right, right[:100], append(slices.Clone(right), 1), from, to}
	for i := range 2 {
		bad, _ := spoilt(right, i, i+2)
		l = append(l, bad)
	}
	for i, b := range l {
		for _, filled := range []byte{0, 128, 255} {
			behind := bytes.Repeat([]byte{filled}, 300)
			o, x, y := slices.Concat(b, behind), slices.Concat(from, behind), slices.Concat(to, behind)
			all, e := update.Get(o[:len(b)])
			if (e == api.OK) != (i == 4 || i == 2) {
				t.Errorf("the bytes %d, with room behind: %v", i, e)
			}
			if e := update.Check(x[:len(from)], y[:len(to)], o[:len(b)]); (e == api.OK) != (i == 4) {
				t.Errorf("the bytes %d, checked, with room behind: %v", i, e)
			}
			update.Check(o[:len(b)], y[:len(to)], x[:len(from)])
			update.Check(x[:len(from)], o[:len(b)], y[:len(to)])
			if !bytes.Equal(o, slices.Concat(b, behind)) || !bytes.Equal(x, slices.Concat(from, behind)) || !bytes.Equal(y, slices.Concat(to, behind)) {
				t.Errorf("the bytes %d were changed", i)
			}
			for j := range o {
				o[j] ^= 0xa5
			}
			if i == 4 {
				wantSteps(t, "behind what was written to the bytes", all, hopsOf(whole(2), whole(5)))
			}
		}
	}
}

// spoil writes to all points of lists, and to the room behind them.
func spoil(lists ...[]group.G1) {
	for _, l := range lists {
		for i := range l[:cap(l)] {
			l[:cap(l)][i] = group.G1{X: fq.Of(9), Y: fq.Of(8), Z: fq.Of(7)}
		}
	}
}

// R3: an updated setup shares nothing with the one that it comes of, by 1 too, and no
// two of its lists share any.
func TestUpdatedSetupsAreApart(t *testing.T) {
	for _, n := range []int{1, 2, 3, 4, 7, 8, 20} {
		for _, d := range wholes(1, 5) {
			x := expsOf(whole(2), whole(3), n)
			s := made(t, whole(2), whole(3), n)
			a, step := updated(t, s, d)
			b, _ := updated(t, s, d)
			spoil(a.Powers)
			want(t, "behind what was written to the powers", &srs.SRS{Powers: b.Powers, Blinds: a.Blinds, Tau: a.Tau}, x.updated(d))
			spoil(a.Blinds)
			a.Tau = group.G2{}
			want(t, "what was updated", s, x)
			want(t, "updated once more", b, x.updated(d))
			wantSteps(t, "the step", []update.Step{step}, hopsOf(whole(2), d))
			spoil(b.Blinds)
			b.Blinds = x.updated(d).setup().Blinds
			want(t, "behind what was written to the blinds", b, x.updated(d))
			c, _ := updated(t, s, d)
			spoil(s.Powers, s.Blinds)
			want(t, "behind what was written to what was updated", c, x.updated(d))
		}
	}
}

// R3, of steps and of bytes.
func TestAnswersAreApart(t *testing.T) {
	hops := drawn(8, 5)
	text := hopTexts(hops)
	l := got(t, text)
	o := got(t, text)
	b := stepsBytes(t, l)
	c := stepsBytes(t, l)
	for i := range l[:cap(l)] {
		l[:cap(l)][i] = update.Step{A: gen1, D: gen2}
	}
	wantSteps(t, "behind what was written to others", o, hops)
	if !bytes.Equal(b, text) || !bytes.Equal(text, hopTexts(hops)) {
		t.Error("bytes show what was written to the steps")
	}
	for i := range b[:cap(b)] {
		b[:cap(b)][i] = 9
	}
	wantSteps(t, "behind what was written to bytes", o, hops)
	wantSteps(t, "read again", got(t, text), hops)
	if !bytes.Equal(c, text) || !bytes.Equal(stepsBytes(t, o), text) {
		t.Error("bytes show what was written to others")
	}
	none := got(t, []byte{0})
	_ = append(none, update.Step{A: gen1})
	if empty := stepsBytes(t, nil); !bytes.Equal(empty, []byte{0}) || len(got(t, empty)) != 0 {
		t.Errorf("of no steps: %x", empty)
	}
}

// What is written to a setup and to steps counts.
func TestWhatIsWrittenCounts(t *testing.T) {
	x := runOf(t, whole(2), whole(3), 1, whole(5))
	from, to, all := x.setups[0], x.setups[1], x.steps
	ask := func(what string, e api.Errno) {
		t.Helper()
		if wrong := update.Chain(from, to, all); wrong != e {
			t.Errorf("%s: %v, not %v", what, wrong, e)
		}
	}
	ask("as it was", api.OK)
	was := all[0].D
	all[0].D = gen2
	ask("another D", api.ErrReject)
	all[0].D = was
	ask("the D again", api.OK)
	to.Blinds[1] = gen1
	ask("another blind", api.ErrReject)
	to.Blinds[1] = points1.tell(whole(30))
	ask("the blind again", api.OK)
	from.Tau = gen2
	ask("another Tau", api.ErrReject)
	from.Tau = points2.tell(whole(2))
	ask("Tau again", api.OK)
}

// R6
func TestEmptyListsMayBeNil(t *testing.T) {
	s := made(t, whole(2), whole(3), 1)
	for _, none := range [][]update.Step{nil, {}} {
		if e := update.Chain(s, s, none); e != api.OK {
			t.Errorf("without steps: %v", e)
		}
		if b := stepsBytes(t, none); !bytes.Equal(b, []byte{0}) {
			t.Errorf("without steps: %x", b)
		}
	}
	for _, none := range [][]byte{nil, {}} {
		refuse(t, "no bytes", none, api.ErrShort)
		b := bytesOf(t, s)
		for i, e := range []api.Errno{update.Check(none, b, []byte{0}), update.Check(b, none, []byte{0}), update.Check(b, b, none)} {
			if e != api.ErrShort {
				t.Errorf("no bytes at %d: %v", i, e)
			}
		}
	}
	for i, o := range []*srs.SRS{{Powers: []group.G1{}}, {Blinds: []group.G1{}}, {Powers: []group.G1{}, Blinds: []group.G1{}, Tau: gen2}, {}} {
		_, _, e := update.Update(o, fr.Of(1))
		if e != api.ErrArg || update.Chain(o, o, nil) != api.ErrReject || update.Chain(s, o, nil) != api.ErrReject {
			t.Error(fmt.Sprint("the empty setup ", i, ": ", e))
		}
	}
}

// R8: what is refused takes no room, however much there was of it.
func TestRefusedLeavesNoRoom(t *testing.T) {
	n := api.MaxPower
	powers, blinds := make([]group.G1, n+1), make([]group.G1, n+1)
	uneven, whole := &srs.SRS{Powers: powers, Blinds: blinds[1:]}, &srs.SRS{Powers: powers, Blinds: blinds}
	many := make([]update.Step, 1<<12)
	short, long, most := counted(api.MaxChain, 144*api.MaxChain), counted(api.MaxChain, 2+144*api.MaxChain), counted(255, 1+144*255)
	first := counted(api.MaxChain, 1+144*api.MaxChain)
	var before, after runtime.MemStats
	runtime.ReadMemStats(&before)
	for range 100 {
		for _, b := range [][]byte{short, long, most, first} {
			update.Get(b)
			update.Check(b, b, b)
		}
		update.Update(uneven, fr.Of(1))
		update.Update(whole, fr.Of(0))
		update.Chain(whole, whole, many)
		update.Chain(uneven, whole, many[:1])
		update.Chain(nil, whole, many)
		update.Bytes(many)
	}
	runtime.ReadMemStats(&after)
	if more := after.TotalAlloc - before.TotalAlloc; more > 1<<20 {
		t.Errorf("refused calls took %d bytes", more)
	}
}
