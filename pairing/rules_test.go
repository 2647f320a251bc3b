package pairing_test

import (
	"slices"
	"sync"
	"testing"

	"marlinspike/api"
	"marlinspike/fq"
	"marlinspike/fq12"
	"marlinspike/fq2"
	"marlinspike/group"
	"marlinspike/pairing"
)

// R1 to R6 for this layer's calls.

// Points that no call told: each call ends, and none panics.
func TestNothingPanics(t *testing.T) {
	ns := []fq.El{fq.Of(0), fq.Of(1), fq.Of(-1), fq.Of(7)}
	ms := []fq2.El{fq2.Of(0, 0), fq2.Of(1, 0), fq2.Of(0, 1), fq2.Of(-1, 7)}
	var ps []group.G1
	var qs []group.G2
	for i := range 64 {
		p := group.G1{X: ns[i%4], Y: ns[i/4%4], Z: ns[i/16]}
		q := group.G2{X: ms[i%4], Y: ms[i/4%4], Z: ms[i/16]}
		ps, qs = append(ps, p, p, gen1), append(qs, q, gen2, q)
		pairing.Pair(p, q)
	}
	for i := 0; i < len(ps); i += 16 {
		pairing.Product(ps[i:i+16], qs[i:i+16])
		pairing.IsOne(ps[i:i+16], qs[:16])
		refused(t, ps[i:], qs[i+1:])
		refused(t, ps[i:i+1], qs[i:])
	}
}

// answers are what all calls tell of some points.
type answers struct {
	last, pair, product fq12.El
	one                 bool
	e, of               api.Errno
}

func ask(ps []group.G1, qs []group.G2) (a answers) {
	a.pair = pairing.Pair(ps[0], qs[0])
	a.last = pairing.Last(fq12.Of(2).Add(a.pair))
	a.product, a.e = pairing.Product(ps, qs)
	a.one, a.of = pairing.IsOne(ps, qs)
	return a
}

// Asked several times, with other calls between, refused ones among them, the
// same is answered.
func TestAnswersHangOnArgumentsAlone(t *testing.T) {
	g, h := gen1, gen2
	ps := []group.G1{g, times1(-1), {}, outside1(t)[0], times1(9)}
	qs := []group.G2{h, h, outside2(t)[1], {}, times2(-4)}
	type part struct{ from, to int }
	parts := []part{{0, 1}, {0, 2}, {2, 3}, {2, 4}, {0, 4}, {0, 5}, {4, 5}}
	var before []answers
	for _, p := range parts {
		before = append(before, ask(ps[p.from:p.to], qs[p.from:p.to]))
	}
	for range 2 {
		for i, p := range slices.Backward(parts) {
			if got := ask(ps[p.from:p.to], qs[p.from:p.to]); got != before[i] {
				t.Errorf("%d: asked again, it is %v, not %v", i, got, before[i])
			}
			refused(t, ps[p.from:p.to], qs[p.from:p.to-1])
			refused(t, ps[p.from:p.from], qs)
			pairing.Last(fq12.El{})
		}
	}
	if !before[1].one || before[5].one || before[0].one || !before[2].one || !before[4].one {
		t.Error("lists whose product is 1 and lists whose product is not")
	}
}

// Lists stay as they are, with the room behind their ends, and what is written
// there afterwards shows in no answer.
func TestArgumentsAreNotChangedAndNotKept(t *testing.T) {
	p, q := times1(6), outside2(t)[2]
	ps := append([]group.G1{p, times1(-2), {}}, times1(5), p)[:3]
	qs := append([]group.G2{times2(3), q, q}, q, times2(7))[:3]
	allPs, allQs := slices.Clone(ps[:5]), slices.Clone(qs[:5])
	first := ask(ps, qs)
	refused(t, ps, qs[:2])
	refused(t, ps[:1], qs)
	refused(t, ps[:4], qs)
	if !slices.Equal(ps[:5], allPs) || !slices.Equal(qs[:5], allQs) || len(ps) != 3 || len(qs) != 3 {
		t.Error("a list was changed")
	}
	was := first
	clear(ps[:5])
	clear(qs[:5])
	if got := ask(ps, qs); got.product != one() || got.pair != one() || !got.one {
		t.Errorf("of zero Points: %v", got)
	}
	if got := ask(allPs[:3], allQs[:3]); got != was || first != was {
		t.Errorf("asked again, it is %v, not %v", got, was)
	}
	first.product.A, first.pair.B = fq12.Of(9).A, fq12.Of(9).A
	if got := ask(allPs[:3], allQs[:3]); got != was {
		t.Errorf("what was written in an answer shows: %v", got)
	}
}

// A number of twelve parts is a value: it stays as it is.
func TestNumbersStay(t *testing.T) {
	s := numbers{state: 8}
	for _, f := range append(s.full(3), fq12.El{}, one()) {
		same := f
		last := pairing.Last(f)
		if f != same || pairing.Last(same) != last {
			t.Errorf("%s: it is another one", digits(same))
		}
	}
}

// The calls may be asked by many at once, and tell them the same.
func TestManyAtOnce(t *testing.T) {
	ps, qs := []group.G1{times1(2), times1(-3), {}}, []group.G2{times2(3), times2(2), gen2}
	want := ask(ps, qs)
	if !want.one {
		t.Error("2 and 3, -3 and 2: not 1")
	}
	var all sync.WaitGroup
	for n := range int64(8) {
		f := pairing.Pair(times1(n), times2(3*n-1))
		all.Go(func() {
			for range 3 {
				if got := ask(ps, qs); got != want {
					t.Errorf("%d: %v, not %v", n, got, want)
				}
				if got := pairing.Pair(times1(n), times2(3*n-1)); got != f {
					t.Errorf("%d: %s, not %s", n, digits(got), digits(f))
				}
			}
		})
	}
	all.Wait()
}
