package marlin_test

import (
	"fmt"
	"math/big"
	"slices"
	"strings"
	"testing"

	"marlinspike/api"
	"marlinspike/marlin"
)

// P29.5: whoever knows the setup's t makes a proof of any inputs, of a key of any points;
// and what is accepted is an equation of scalars.

// forger knows t. He makes proofs for which both equations and both openings hold, but for
// those whose bits are set in wrong.
type forger struct {
	*numbers
	question
	wrong int
}

// slip is 0, or else, where the i-th one of the four is to be wrong, another number.
func (f forger) slip(i int) *big.Int {
	if f.wrong>>i&1 == 0 {
		return whole(0)
	}
	return f.great()
}

// solved is what a scalar must be, that both sides are the same; each of them goes by that
// scalar once.
func (f *forger) solved(at **big.Int, sides func() (left, right *big.Int)) *big.Int {
	apart := func(n int64) *big.Int {
		*at = whole(n)
		return less(sides())
	}
	none, one := apart(0), apart(1)
	return per(none, less(none, one))
}

// forged makes the proof; the equations are mended at the places of two values.
func (f forger) forged(mendFirst, mendSecond int) question {
	for i := range f.p.c {
		f.p.c[i] = f.list(1)[0]
	}
	for i := range f.p.s {
		f.p.s[i] = f.great()
	}
	say := speechOf(f.k, f.in)
	say.first(f.p)
	say.second(f.p)
	say.third(f.p)
	f.p.s[mendFirst] = plus(f.solved(&f.p.s[mendFirst], func() (l, r *big.Int) { return f.firstSides(say) }), f.slip(0))
	f.p.s[mendSecond] = plus(f.solved(&f.p.s[mendSecond], func() (l, r *big.Int) { return f.secondSides(say) }), f.slip(1))
	say.values(f.p)
	f.p.c[11] = plus(per(f.leftB(say), less(f.k.tau, say.b)), f.slip(2))
	f.p.c[12] = plus(per(f.leftG(say), less(f.k.tau, say.g)), f.slip(3))
	return f.question
}

// anyKeys are of all kinds of numbers that may be, and of any points; some are far.
func (s *numbers) anyKeys() (l []keyTale) {
	for _, f := range [][5]int{
		{4, 2, 2, 2, 12}, {2, 1, 2, 1, 12}, {2, 1, 2, 1, 13}, {4, 2, 2, 1, 300}, {8, 2, 4, 2, 24}, {8, 4, 2, 3, 16}, {16, 1, 2, 1, 32},
		{16, 8, 8, 8, 48}, {64, 32, 2, 20, 128}, {4, 1, 64, 1, 500}, {4096, 16, 2, 9, 8192}, {8192, 8, 2048, 5, api.MaxPower},
	} {
		k := keyTale{n: f[0], x: f[1], m: f[2], inputs: f[3], d: f[4], blind: s.list(1)[0], tau: s.big()}
		for i := range k.c {
			k.c[i] = s.list(1)[0]
		}
		l = append(l, k)
	}
	return l
}

// anyInputs are so many as a key has; the first one is 1.
func (s *numbers) anyInputs(k keyTale) []*big.Int { return append(wholes(1), s.list(k.inputs-1)...) }

// All four right: OK; whichever of them wrong: ErrReject.
func TestForged(t *testing.T) {
	l := (&numbers{state: 80}).anyKeys()
	together(len(l), func(i int) {
		s := numbers{state: uint64(800 + i)}
		firsts, seconds := []int{atH1, atS, atG1, atW, atA, atB}, []int{atH2, atG2, atVal, atVal + 1, atVal + 2}
		for wrong := range 16 {
			f := forger{&s, question{k: l[i], in: s.anyInputs(l[i])}, wrong}
			x := f.forged(firsts[(i+wrong)%len(firsts)], seconds[(i+wrong)%len(seconds)])
			four, claims := x.four(spoken(x.k, x.in, x.p))
			for j, is := range four {
				if is != (wrong>>j&1 == 0) {
					t.Errorf("%+v, wrong %d: the forger did not make it so", l[i], wrong)
				}
			}
			wanted := api.OK
			if wrong > 0 {
				wanted = api.ErrReject
			}
			if claims != (wrong < 4) {
				t.Errorf("%+v, wrong %d: the claims", l[i], wrong)
			}
			wantVerdict(t, fmt.Sprintf("%+v, wrong %d", l[i], wrong), x, wanted)
			if wrong == 0 || wrong == 1<<(i%4) {
				wantVerdictOfBytes(t, fmt.Sprintf("%+v, wrong %d", l[i], wrong), x, wanted)
			}
		}
	})
}

// Of circuits: a proof of what is not so, by their own keys.
func TestForgedOfCircuits(t *testing.T) {
	s := numbers{state: 81}
	tau, g := s.great(), s.great()
	for i, w := range []proven{
		expsOf(tau, g, 12).provenBy(t, square(), s.draws(square().c)), expsOf(tau, g, 24).provenBy(t, cube(), s.draws(cube().c)),
	} {
		for _, k := range append(wholes(8, 0, -1), number(great2)) {
			f := forger{&s, question{k: w.k, in: []*big.Int{whole(1), k}}, 0}
			x := f.forged(atH1, atH2)
			wantVerdict(t, fmt.Sprint("the circuit ", i, " of 1 and ", k), x, api.OK)
			wantVerdictOfBytes(t, fmt.Sprint("the circuit ", i, " of 1 and ", k), x, api.OK)
			x.in = []*big.Int{whole(1), plus(k, whole(1))}
			wantVerdict(t, fmt.Sprint("the circuit ", i, " of 1 and another one than ", k), x, api.ErrReject)
		}
	}
}

// A first input that is not 1, where all else holds.
func TestForgedOfAnotherFirstInput(t *testing.T) {
	s := numbers{state: 82}
	for i, k := range s.anyKeys()[:8] {
		for _, one := range append(wholes(1, 0, 2, -1), s.great()) {
			f := forger{&s, question{k: k, in: append([]*big.Int{one}, s.list(k.inputs-1)...)}, 0}
			x := f.forged(atH1, atH2)
			if four, claims := x.four(spoken(x.k, x.in, x.p)); four != [4]bool{true, true, true, true} || !claims {
				t.Fatal("not all else holds")
			}
			wanted := api.ErrReject
			if same(one, whole(1)) {
				wanted = api.OK
			}
			wantVerdict(t, fmt.Sprint("the key ", i, ", the first input ", one), x, wanted)
			wantVerdictOfBytes(t, fmt.Sprint("the key ", i, ", the first input ", one), x, wanted)
		}
	}
}

// Two openings that are wrong by as much as each other, or so often as y, a, b, g say: they
// hold together at those, and not at the x that is drawn behind them.
func TestForgedOpeningsTogether(t *testing.T) {
	s := numbers{state: 83}
	for i, k := range s.anyKeys()[:6] {
		f := forger{&s, question{k: k, in: s.anyInputs(k)}, 0}
		right := f.forged(atH1, atH2)
		say := spoken(right.k, right.in, right.p)
		for j, at := range []*big.Int{whole(1), whole(0), minus(1), say.y, say.a, say.b, say.g, say.x, say.e[0], per(whole(1), say.y)} {
			x := right
			slip := s.great() // what is left at g is wrong so much, and at b less at times that
			x.p.c[12] = plus(x.p.c[12], per(slip, less(k.tau, say.g)))
			x.p.c[11] = plus(x.p.c[11], per(times(minus(1), at, slip), less(k.tau, say.b)))
			again := spoken(x.k, x.in, x.p)
			left := plus(times(less(k.tau, again.b), x.p.c[11]), times(at, less(k.tau, again.g), x.p.c[12]))
			if !same(left, plus(x.leftB(again), times(at, x.leftG(again)))) {
				t.Fatal("they do not hold together there")
			}
			wantVerdict(t, fmt.Sprintf("the key %d, at the scalar %d", i, j), x, api.ErrReject)
		}
	}
}

// Openings that are wrong, and hold together at an x which a forger foresees, as not all of
// Blind, Wb and Wg would be said ahead of it: he makes the last one of them behind it. By the
// chapter all of them are said, so that x is another one.
func TestForgedByAForeseenX(t *testing.T) {
	s := numbers{state: 89}
	for i, k := range s.anyKeys()[:6] {
		k.blind = s.great()
		f := forger{&s, question{k: k, in: s.anyInputs(k)}, 0}
		right := f.forged(atH1, atH2)
		wantVerdict(t, fmt.Sprint("the key ", i), right, api.OK)
		for _, said := range []string{"", "B", "b", "g", "Bb", "Bg", "bg", "gb", "gB", "bB"} {
			x := right
			x.p.s[atBlind], x.p.c[11], x.p.c[12] = s.great(), s.great(), s.great()
			say := speechOf(x.k, x.in)
			say.first(x.p)
			say.second(x.p)
			say.third(x.p)
			say.values(x.p)
			var text []byte
			for _, part := range said {
				text = append(text, map[rune][]byte{'B': textOfScalars(x.p.s[atBlind]), 'b': textOfPoints(x.p.c[11]), 'g': textOfPoints(x.p.c[12])}[part]...)
			}
			if said != "" {
				say.absorb(text)
			}
			say.x = say.draw()
			at, free := 11, ""
			for _, part := range "Bbg" {
				if !strings.ContainsRune(said, part) {
					free, at = string(part), map[rune]int{'B': 13 + atBlind, 'b': 11, 'g': 12}[part]
				}
			}
			part := x.p.parts()[at]
			*part = f.solved(part, func() (left, right *big.Int) {
				wb, wg := x.p.c[11], x.p.c[12]
				all := plus(x.leftB(say), times(say.b, wb), times(say.x, plus(x.leftG(say), times(say.g, wg))))
				return all, times(k.tau, plus(wb, times(say.x, wg)))
			})
			if l, together := x.four(say); !together || l[2] || l[3] {
				t.Fatalf("the key %d, said %q, free %s: not as the forger wants it", i, said, free)
			}
			wantVerdict(t, fmt.Sprintf("the key %d, said %q, free %s", i, said, free), x, api.ErrReject)
		}
	}
}

// Each part of a forged proof alone is another one, or two of them are: what is told is what
// the equations of scalars tell. (By a far blind, Blind plays no part but in the script.)
func TestForgedAndChanged(t *testing.T) {
	l := (&numbers{state: 84}).anyKeys()[:8]
	accepted := make([]int, len(l))
	together(len(l), func(i int) {
		s := numbers{state: uint64(840 + i)}
		f := forger{&s, question{k: l[i], in: s.anyInputs(l[i])}, 0}
		right := f.forged(atH1, atH2)
		for j, name := range names {
			x := right
			for range 2 {
				*x.p.parts()[j] = s.list(1)[0]
				wanted := x.verdict()
				wantVerdict(t, fmt.Sprintf("%+v, another %s", l[i], name), x, wanted)
				if wanted == api.OK {
					accepted[i]++
				}
				j = s.below(32)
			}
		}
	})
	for i, n := range accepted {
		if n > 8 {
			t.Errorf("%+v: %d are accepted", l[i], n)
		}
	}
}

// Whatever the scalars are: any proof at all, some parts 0, of any key.
func TestAnyProofs(t *testing.T) {
	l := (&numbers{state: 85}).anyKeys()[:8]
	together(len(l), func(i int) {
		s := numbers{state: uint64(850 + i)}
		for range 6 {
			x := question{k: l[i], in: s.anyInputs(l[i])}
			x.p.c, x.p.s = [13]*big.Int(s.list(13)), [19]*big.Int(s.list(19))
			wantVerdict(t, fmt.Sprintf("%+v, any", l[i]), x, x.verdict())
		}
		x := question{k: l[i], in: s.anyInputs(l[i])}
		for _, k := range wholes(0, 1, -1) {
			x.p.c, x.p.s = [13]*big.Int(repeat(k, 13)), [19]*big.Int(repeat(k, 19))
			wantVerdict(t, fmt.Sprintf("%+v, all %v", l[i], k), x, x.verdict())
		}
	})
}

// Of points that are all far, and values 0, but for S and T: there the equations alone
// decide. (The claims hold of values whose fold at y is what the openings say.)
func TestForgedOfFarPoints(t *testing.T) {
	s := numbers{state: 86}
	for i, k := range s.anyKeys()[:6] {
		k.c = [9]*big.Int(repeat(whole(0), 9))
		k.blind = whole(0)
		for _, one := range []bool{true, false} {
			x := question{k: k, in: s.anyInputs(k)}
			x.p.c, x.p.s = [13]*big.Int(repeat(whole(0), 13)), [19]*big.Int(repeat(whole(0), 19))
			if !one {
				x.p.s[atBlind] = s.great() // by a far blind it plays no part, but in the script
			}
			wantVerdict(t, fmt.Sprint("the key ", i), x, api.OK)
			x.p.s[atT] = whole(1)
			wantVerdict(t, fmt.Sprint("the key ", i, ", T of 1"), x, api.ErrReject)
		}
	}
}

// Forged proofs that go by Tau: by a key of the negative of it, of the far one, or of
// another one, they are not accepted; and by a far Tau others are.
func TestForgedByOtherTaus(t *testing.T) {
	s := numbers{state: 87}
	for i, k := range s.anyKeys()[:5] {
		f := forger{&s, question{k: k, in: s.anyInputs(k)}, 0}
		for _, tau := range []*big.Int{whole(0), less(whole(0), k.tau), plus(k.tau, whole(1))} {
			x := f.forged(atH1, atH2)
			x.k.tau = tau
			wantVerdict(t, fmt.Sprint("the key ", i, ", Tau of ", tau), x, api.ErrReject)
			o := forger{&s, question{k: x.k, in: x.in}, 0}
			wantVerdict(t, fmt.Sprint("the key ", i, ", forged by Tau of ", tau), o.forged(atH1, atH2), api.OK)
		}
	}
}

// A forged proof is accepted of its own inputs, key and parts alone: the same lists, asked
// of all others' keys.
func TestForgedForOthers(t *testing.T) {
	s := numbers{state: 88}
	var l []question
	k := s.anyKeys()[0]
	for i := range 5 {
		k.c[i] = plus(k.c[i], whole(1))
		f := forger{&s, question{k: k, in: s.anyInputs(k)}, 0}
		l = append(l, f.forged(atH1, atH2))
	}
	for i, x := range l {
		for j, o := range l {
			wanted := api.OK
			if i != j {
				wanted = api.ErrReject
			}
			wantVerdict(t, fmt.Sprint("the proof ", i, " by the key and inputs of ", j), question{o.k, o.in, x.p}, wanted)
		}
		b := slices.Concat(x.p.text())
		if e := marlin.VerifyBytes(x.k.text(), textOfScalars(x.in...), b); e != api.OK {
			t.Errorf("the proof %d: %v", i, e)
		}
	}
}
