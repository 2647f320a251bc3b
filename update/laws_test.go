package update_test

import (
	"bytes"
	"fmt"
	"math/big"
	"slices"
	"testing"

	"marlinspike/api"
	"marlinspike/group"
	"marlinspike/srs"
	"marlinspike/update"
)

// P18.4: a chain is accepted just if there are scalars that lead from one to the other;
// every chain of updates is.

// run is a setup that goes on by scalars: each setup on the way, and the steps.
type run struct {
	setups []*srs.SRS
	steps  []update.Step
}

func runOf(t *testing.T, tau, g *big.Int, n int, ds ...*big.Int) run {
	t.Helper()
	x := run{setups: []*srs.SRS{made(t, tau, g, n)}}
	for _, d := range ds {
		o, step := updated(t, x.setups[len(x.setups)-1], d)
		x.setups, x.steps = append(x.setups, o), append(x.steps, step)
	}
	return x
}

func TestEveryChainOfUpdatesIsAccepted(t *testing.T) {
	s := numbers{state: 2}
	var l []question
	for count := range 7 {
		for n := 1; n <= 2; n++ {
			var ds []*big.Int
			for range count {
				ds = append(ds, s.big())
			}
			x := runOf(t, s.big(), s.big(), n, ds...)
			l = append(l, question{fmt.Sprintf("%d steps of the degree %d", count, n), x.setups[0], x.setups[count], x.steps, api.OK})
			if o := x.setups[count]; !o.Good() || o.Degree() != n {
				t.Errorf("updated %d times, of the degree %d it is not good", count, n)
			}
		}
	}
	wantAnswers(t, l)
}

// Each part of a chain leads from where it begins to where it ends, and nowhere else.
func TestPartsLeadToTheirOwnEnds(t *testing.T) {
	x := runOf(t, whole(2), whole(3), 1, wholes(5, -7, 11, 1<<33)...)
	var l []question
	for first := range x.steps {
		for last := first; last <= len(x.steps); last++ {
			for i, from := range x.setups {
				for j, to := range x.setups {
					e := api.ErrReject
					if first == last && i == j || first < last && i == first && j == last {
						e = api.OK
					}
					l = append(l, question{fmt.Sprintf("the steps from %d to %d, from %d to %d", first, last, i, j), from, to, x.steps[first:last], e})
				}
			}
		}
	}
	wantAnswers(t, l)
}

// Steps of other setups: those of the same secrets, of whatever degree and blind, are
// the same steps; those of other ones do not lead on.
func TestStepsOfOtherSetups(t *testing.T) {
	x := runOf(t, whole(2), whole(3), 2, wholes(5, 7)...)
	same, blind := runOf(t, whole(2), whole(3), 1, wholes(5, 7)...), runOf(t, whole(2), whole(4), 2, wholes(5, 7)...)
	secret, way := runOf(t, whole(4), whole(3), 2, wholes(5, 7)...), runOf(t, whole(2), whole(3), 2, wholes(7, 5)...)
	l := []question{
		{"of another degree", x.setups[0], x.setups[2], same.steps, api.OK},
		{"of another blind", x.setups[0], x.setups[2], blind.steps, api.OK},
		{"on another way", x.setups[0], x.setups[2], way.steps, api.OK},
		{"on another way, its own first step", x.setups[0], x.setups[2], []update.Step{x.steps[0], way.steps[1]}, api.ErrReject},
		{"of another secret", x.setups[0], x.setups[2], secret.steps, api.ErrReject},
		{"of another secret, from it", secret.setups[0], x.setups[2], secret.steps, api.ErrReject},
		{"of another secret, to it", x.setups[0], secret.setups[2], x.steps, api.ErrReject},
		{"to another degree", x.setups[0], same.setups[2], x.steps, api.ErrReject},
		{"to another blind", x.setups[0], blind.setups[2], x.steps, api.ErrReject},
		{"from another blind", blind.setups[0], x.setups[2], x.steps, api.ErrReject},
		{"to the other way's middle", x.setups[0], way.setups[1], x.steps[:1], api.ErrReject},
	}
	wantAnswers(t, l)
}

// Two steps are as one by the product of their scalars.
func TestStepsTogether(t *testing.T) {
	s := numbers{state: 7}
	var l []question
	for range 6 {
		tau, g, d, e := s.big(), s.big(), s.big(), s.big()
		two, one := runOf(t, tau, g, 2, d, e), runOf(t, tau, g, 2, product(d, e))
		want(t, "by both", two.setups[2], expsOf(product(tau, d, e), g, 2))
		want(t, "by their product", one.setups[1], expsOf(product(tau, d, e), g, 2))
		l = append(l, question{"one step to both's end", two.setups[0], two.setups[2], one.steps, api.OK})
		l = append(l, question{"both steps to the one's end", one.setups[0], one.setups[1], two.steps, api.OK})
	}
	wantAnswers(t, l)
}

// Drawn points among those of a chain.
func TestDrawnPointsAmongOthers(t *testing.T) {
	s := numbers{state: 4}
	var l []question
	for range 40 {
		var ds []*big.Int
		for range 1 + s.below(4) {
			ds = append(ds, s.big())
		}
		tau, g := s.big(), s.big()
		hops := hopsOf(tau, ds...)
		from, to := expsOf(tau, g, 1), expsOf(hops[len(hops)-1].a, g, 1)
		i := s.below(len(hops))
		switch s.below(4) {
		case 0:
			hops[i].a = s.big()
		case 1:
			hops[i].d = s.big()
		case 2:
			hops[i] = hop{s.big(), s.big()}
		default:
			to = expsOf(s.big(), g, 1)
		}
		l = append(l, ask(fmt.Sprintf("a drawn point in the step %d of %d", i, len(hops)), from, to, hops))
	}
	some(t, l, 0)
	wantAnswers(t, l)
}

// Steps and their bytes are each other's.
func TestThereAndBack(t *testing.T) {
	for _, count := range []int{0, 1, 2, 5, 12, api.MaxChain} {
		hops := drawn(uint64(count+40), count)
		b := hopTexts(hops)
		l := got(t, b)
		wantSteps(t, fmt.Sprint("of ", count), l, hops)
		if again := stepsBytes(t, l); !bytes.Equal(again, b) {
			t.Errorf("%d steps, read, have other bytes", count)
		}
	}
}

// With one bit turned over they are no bytes of steps, or those of other ones, of which
// one point is another one: so they are no chain to that end.
func TestOtherBitsAreOtherSteps(t *testing.T) {
	from, to := expsOf(whole(2), whole(3), 1).setup(), expsOf(whole(10), whole(3), 1).setup()
	b := hopTexts(hopsOf(whole(2), whole(5)))
	seen := map[api.Errno]int{}
	var l []question
	for i := range b {
		if i > 0 && (i-1)%48 > 0 && i%5 > 0 {
			continue // to read points takes long
		}
		for bit := range 8 {
			turned := slices.Clone(b)
			turned[i] ^= 1 << bit
			all, e := update.Get(turned)
			seen[e]++
			if e != api.OK {
				continue
			}
			if again := stepsBytes(t, all); !bytes.Equal(again, turned) {
				t.Errorf("the bit %d of the byte %d: read, there are other bytes", bit, i)
			}
			l = append(l, question{fmt.Sprintf("the bit %d of the byte %d", bit, i), from, to, all, api.ErrReject})
		}
	}
	if len(l) != 2 || seen[api.ErrForm] != 2 || seen[api.ErrShort] != 4 || seen[api.ErrLong] != 4 {
		t.Errorf("%v", seen) // each point's negative, the far one's form; the count
	}
	wantAnswers(t, l)
}

// What a chain's bytes tell is what it tells.
func TestCheckIsChain(t *testing.T) {
	x := runOf(t, whole(2), whole(3), 1, wholes(5, -7, 11)...)
	texts := make([][]byte, len(x.setups))
	for i, s := range x.setups {
		texts[i] = bytesOf(t, s)
	}
	var l []asked
	for i, from := range x.setups {
		for j, to := range x.setups {
			for first := range x.steps {
				l = append(l, asked{fmt.Sprint(i, j, first), texts[i], texts[j], stepsBytes(t, x.steps[first:]), update.Chain(from, to, x.steps[first:])})
			}
		}
	}
	wantChecks(t, l)
}

// Of points of the group there is a step by each scalar: its D and the end tell which.
func TestUnlikeScalarsAreUnlikeSteps(t *testing.T) {
	s := made(t, whole(2), whole(3), 1)
	seen := map[string]string{}
	for _, d := range append(scalars(), whole(4), whole(5), whole(6)) {
		o, step := updated(t, s, d)
		b := string(stepsBytes(t, []update.Step{step})) + string(bytesOf(t, o))
		if before, is := seen[b]; is {
			t.Errorf("%s and %v are the same", before, d)
		}
		seen[b] = d.String()
		if group.Curve2().Same(step.D, group.G2{}) {
			t.Errorf("by %v D is the far one", d)
		}
	}
}
