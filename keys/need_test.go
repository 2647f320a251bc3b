package keys_test

import (
	"math"
	"math/big"
	"testing"

	"marlinspike/api"
	"marlinspike/decide"
	"marlinspike/keys"
)

// P27.1: Need and Check.

// wantNeed fails if Need does not tell this.
func wantNeed(t *testing.T, z decide.Sizes, wanted int) {
	t.Helper()
	if n := keys.Need(z); n != wanted {
		t.Errorf("Need of %+v: %d, not %d", z, n, wanted)
	}
}

// wantCheck fails if Check does not tell this.
func wantCheck(t *testing.T, what string, f five, wanted api.Errno) {
	t.Helper()
	if e := f.key().Check(); e != wanted {
		t.Errorf("%s: Check of %+v: %v, not %v", what, f, e, wanted)
	}
}

// wantChecks fails if Check does not tell of each what the chapter's words tell.
func wantChecks(t *testing.T, what string, l []five) {
	t.Helper()
	together(len(l), func(i int) {
		if e, wanted := l[i].key().Check(), l[i].fault(); e != wanted {
			t.Errorf("%s: Check of %+v: %v, not %v", what, l[i], e, wanted)
		}
	})
}

func TestNeed(t *testing.T) {
	table := []struct{ n, x, m, need int }{
		{4, 2, 2, 12}, {8, 2, 4, 24}, {1, 1, 1, 6}, {2, 1, 2, 12}, {8, 4, 2, 16}, {16, 1, 2, 32}, {16, 8, 4, 32}, {32, 8, 8, 64}, {16, 8, 8, 48},
		{2048, 1024, 4096, 24576}, {2048, 1, 2, 4096}, {1024, 1, 2048, 12288}, {8192, 1, 2, 16384}, {16384, 1, 2, 32768},
		{api.MaxDomain, 2, 2, 2 * api.MaxDomain}, {4, 2, api.MaxDomain, 6 * api.MaxDomain}, {api.MaxDomain, api.MaxDomain, api.MaxDomain, 6 * api.MaxDomain},
		{6, 2, 2, 12}, {7, 2, 2, 14}, {3, 0, 1, 6}, {4, 0, 1, 8}, {0, 0, 0, 0}, {1, 9, 0, 2}, {0, 9, 1, 6}, {-1, 0, -1, -2}, {-4, 0, -1, -6}, {-3, 0, -1, -6}, {-2, 5, 0, 0}, {0, 5, -2, 0},
		{2 * api.MaxDomain, 2, 2, 4 * api.MaxDomain}, {4, 2, 2 * api.MaxDomain, 12 * api.MaxDomain},
		{math.MinInt, 2, 2, 12}, {4, 2, math.MinInt, 8}, {math.MinInt, 2, -1, -6}, {-3, 2, math.MinInt + 4, -6}, {4, 2, math.MinInt + 4, 8}, {math.MinInt + 40, 2, 2, 12},
		{math.MaxInt / 2, 2, 2, math.MaxInt - 1}, {4, 2, math.MaxInt / 6, math.MaxInt / 6 * 6}, {math.MinInt / 2, 2, math.MinInt, math.MinInt},
	}
	for _, x := range table {
		wantNeed(t, decide.Sizes{N: x.n, X: x.x, M: x.m}, x.need)
	}
}

// nearest is a number, or else the int that is nearest to it.
func nearest(k *big.Int) int {
	switch {
	case k.IsInt64():
		return int(k.Int64())
	case k.Sign() > 0:
		return math.MaxInt
	}
	return math.MinInt
}

// Sizes may be any: the need is exact wherever an int tells it, and the nearest int where
// none does.
func TestNeedOfAnySizes(t *testing.T) {
	all := append(noSizes(), powersOf2()...)
	for _, n := range all {
		for _, m := range all {
			for _, x := range []int{0, 1, n, math.MaxInt, math.MinInt} {
				z := decide.Sizes{N: n, X: x, M: m}
				wantNeed(t, z, nearest(needOf(z)))
			}
		}
	}
	s := numbers{state: 70}
	for range 20000 {
		z := decide.Sizes{N: int(s.word()) >> s.below(64), X: int(s.word()) >> s.below(64), M: int(s.word()) >> s.below(64)}
		wantNeed(t, z, nearest(needOf(z)))
	}
}

// The edges that the document names, each with the other numbers good.
func TestCheck(t *testing.T) {
	table := []struct {
		what string
		f    five
		e    api.Errno
	}{
		{"x x = y", five{4, 2, 2, 2, 12}, api.OK},
		{"N that is X", five{2, 2, 2, 1, 12}, api.ErrSize},
		{"N that is 2 X", five{4, 2, 2, 1, 12}, api.OK},
		{"N that is 4 X", five{8, 2, 2, 1, 16}, api.OK},
		{"N below X", five{2, 4, 2, 1, 12}, api.ErrSize},
		{"N of 1", five{1, 1, 2, 1, 12}, api.ErrSize},
		{"N of 2, X of 2", five{2, 2, 2, 2, 12}, api.ErrSize},
		{"N of 2, X of 1", five{2, 1, 2, 1, 12}, api.OK},
		{"N of 0", five{0, 2, 2, 2, 12}, api.ErrSize},
		{"N and X of 0", five{0, 0, 2, 0, 12}, api.ErrSize},
		{"X of 0", five{4, 0, 2, 1, 12}, api.ErrSize},
		{"X of 1", five{4, 1, 2, 1, 12}, api.OK},
		{"X below 0", five{4, -2, 2, 1, 12}, api.ErrSize},
		{"X of 3", five{8, 3, 2, 1, 16}, api.ErrSize},
		{"N of 6", five{6, 2, 2, 1, 12}, api.ErrSize},
		{"M of 0", five{4, 2, 0, 2, 12}, api.ErrSize},
		{"M of 1", five{4, 2, 1, 2, 12}, api.ErrSize},
		{"M of 3", five{4, 2, 3, 2, 18}, api.ErrSize},
		{"M of 4", five{4, 2, 4, 2, 24}, api.OK},
		{"N of the greatest", five{api.MaxDomain, 2, 2, 2, 12}, api.ErrDegree},
		{"N of the greatest, D too", five{api.MaxDomain, 2, 2, 2, api.MaxPower}, api.ErrDegree},
		{"N of the greatest, D the need", five{api.MaxDomain, 2, 2, 2, 2 * api.MaxDomain}, api.ErrArg},
		{"X of the greatest", five{4, api.MaxDomain, 2, 2, 12}, api.ErrSize},
		{"N and X of the greatest", five{api.MaxDomain, api.MaxDomain, 2, 2, 12}, api.ErrSize},
		{"X of half the greatest N", five{api.MaxDomain, api.MaxDomain / 2, 2, api.MaxDomain / 2, api.MaxPower}, api.ErrDegree},
		{"M of the greatest", five{4, 2, api.MaxDomain, 2, api.MaxPower}, api.ErrDegree},
		{"N of twice the greatest", five{2 * api.MaxDomain, 2, 2, 2, 12}, api.ErrSize},
		{"X of twice the greatest", five{4, 2 * api.MaxDomain, 2, 2, 12}, api.ErrSize},
		{"M of twice the greatest", five{4, 2, 2 * api.MaxDomain, 2, 12}, api.ErrSize},
		{"no inputs", five{4, 2, 2, 0, 12}, api.ErrArg},
		{"an input", five{4, 2, 2, 1, 12}, api.OK},
		{"three inputs", five{4, 2, 2, 3, 12}, api.ErrArg},
		{"inputs below 0", five{4, 2, 2, -1, 12}, api.ErrArg},
		{"the least of inputs", five{4, 2, 2, math.MinInt, 12}, api.ErrArg},
		{"the most of inputs", five{4, 2, 2, math.MaxInt, 12}, api.ErrArg},
		{"as many inputs as N", five{16, 8, 2, 16, 32}, api.ErrArg},
		{"half as many inputs as X", five{16, 8, 2, 4, 32}, api.OK},
		{"the need less 1, by M", five{4, 2, 2, 2, 11}, api.ErrDegree},
		{"the need and 1, by M", five{4, 2, 2, 2, 13}, api.OK},
		{"the need less 1, by N", five{16, 8, 2, 8, 31}, api.ErrDegree},
		{"the need, by N", five{16, 8, 2, 8, 32}, api.OK},
		{"the degree 0", five{4, 2, 2, 2, 0}, api.ErrDegree},
		{"a degree below 0", five{4, 2, 2, 2, -1}, api.ErrDegree},
		{"the least degree", five{4, 2, 2, 2, math.MinInt}, api.ErrDegree},
		{"the greatest degree", five{4, 2, 2, 2, api.MaxPower}, api.OK},
		{"a degree above it", five{4, 2, 2, 2, api.MaxPower + 1}, api.ErrArg},
		{"the greatest int as a degree", five{4, 2, 2, 2, math.MaxInt}, api.ErrArg},
		{"the greatest need", five{8192, 4096, 2048, 4096, api.MaxPower}, api.OK},
		{"the greatest need less 1", five{8192, 4096, 2048, 4096, api.MaxPower - 1}, api.ErrDegree},
		{"a need above all degrees, by N", five{16384, 2, 2, 2, api.MaxPower}, api.ErrDegree},
		{"that need", five{16384, 2, 2, 2, 32768}, api.ErrArg},
		{"a need above all degrees, by M", five{4, 2, 4096, 2, api.MaxPower}, api.ErrDegree},
		{"the greatest circuit's", five{2048, 1024, 4096, 3, 24576}, api.ErrArg},
		{"the zero value", five{}, api.ErrSize},
		{"no size, no inputs", five{3, 2, 2, 0, 12}, api.ErrSize},
		{"no size, a degree too great", five{4, 2, 1, 2, api.MaxPower + 1}, api.ErrSize},
		{"N below 2 X, a degree too small", five{2, 2, 2, 1, 3}, api.ErrSize},
		{"all no good", five{-1, 0, 1, -1, -1}, api.ErrSize},
		{"no inputs, a degree too small", five{4, 2, 2, 0, 11}, api.ErrArg},
		{"too many inputs, no degree", five{4, 2, 2, 3, -1}, api.ErrArg},
		{"no inputs, a degree too great", five{4, 2, 2, 0, api.MaxPower + 1}, api.ErrArg},
	}
	for _, x := range table {
		wantCheck(t, x.what, x.f, x.e)
		if e := x.f.fault(); e != x.e {
			t.Errorf("%s: the words tell %v", x.what, e)
		}
	}
}

// edges are numbers for one place, of numbers that may be.
func (f five) edges(i int) []int {
	if i < 3 {
		return append(noSizes(), powersOf2()...)
	}
	l := []int{math.MinInt, math.MinInt + 12, -api.MaxPower, -12, -1, 0, 1, 2, 1 << 16, 1<<16 + 1, 1<<16 + 12, 1<<31 + 12, 1<<32 + 1, 1<<32 + 12, math.MaxInt - 1, math.MaxInt}
	need := keys.Need(f.sizes())
	return append(l, f.x-1, f.x, f.x+1, f.n, f.m, need-1, need, need+1, 2*f.n-1, 2*f.n, 6*f.m-1, 6*f.m, api.MaxPower-1, api.MaxPower, api.MaxPower+1)
}

// One number, and two of them, at all edges, the others good.
func TestCheckAtEdges(t *testing.T) {
	told := map[api.Errno]int{}
	var one, two []five
	for _, f := range goods() {
		wantCheck(t, "good", f, api.OK)
		for i := range 5 {
			for _, n := range f.edges(i) {
				one = append(one, f.but(i, n))
				told[f.but(i, n).fault()]++
			}
		}
	}
	for _, f := range goods()[:6] {
		for i := range 5 {
			for j := range i {
				for _, n := range f.edges(i) {
					for _, m := range f.edges(j) {
						two = append(two, f.but(i, n).but(j, m))
					}
				}
			}
		}
	}
	wantChecks(t, "but for one number", one)
	wantChecks(t, "but for two numbers", two)
	for _, e := range []api.Errno{api.OK, api.ErrSize, api.ErrArg, api.ErrDegree} {
		if told[e] < 50 {
			t.Errorf("only %d are told %v", told[e], e)
		}
	}
}

// Any sizes of domains, with the degrees and inputs about their edges.
func TestCheckOfSizes(t *testing.T) {
	var l []five
	for _, n := range powersOf2() {
		for _, x := range powersOf2() {
			for _, m := range powersOf2() {
				need := max(2*n, 6*m)
				for _, d := range []int{need - 1, need, api.MaxPower, api.MaxPower + 1} {
					for _, inputs := range []int{0, 1, x, x + 1} {
						l = append(l, five{n, x, m, inputs, d})
					}
				}
			}
		}
	}
	wantChecks(t, "sizes", l)
}

// What points a key has plays no part.
func TestCheckTakesAnyPoints(t *testing.T) {
	ps, qs := strange()
	for _, f := range append(goods()[:4], five{4, 2, 2, 3, 12}, five{4, 2, 2, 2, 11}, five{4, 2, 3, 2, 12}) {
		for i, p := range ps {
			k := f.key()
			k.Blind, k.Tau, k.Row[i%3], k.Val[2] = p, qs[i%len(qs)], p, ps[(i*7)%len(ps)]
			if e := k.Check(); e != f.fault() {
				t.Errorf("Check of %+v, of the points %d: %v", f, i, e)
			}
		}
	}
}
