package srs_test

import (
	"bytes"
	"fmt"
	"math/big"
	"slices"
	"testing"

	"marlinspike/api"
	"marlinspike/group"
	"marlinspike/srs"
)

// P17.5: a setup and its bytes are each other's, a good one is that of just two
// scalars, and one that differs in just one point is not good.

// wantSame fails if two setups' points are not the same.
func wantSame(t *testing.T, what string, a, b *srs.SRS) {
	t.Helper()
	if len(a.Powers) != len(b.Powers) || len(a.Blinds) != len(b.Blinds) {
		t.Fatalf("%s: %d and %d, not %d and %d", what, len(a.Powers), len(a.Blinds), len(b.Powers), len(b.Blinds))
	}
	same := group.Curve1().Same
	if !slices.EqualFunc(a.Powers, b.Powers, same) || !slices.EqualFunc(a.Blinds, b.Blinds, same) || !group.Curve2().Same(a.Tau, b.Tau) {
		t.Errorf("%s: they are not the same", what)
	}
}

func TestThereAndBack(t *testing.T) {
	s := numbers{state: 3}
	var l []*srs.SRS
	for _, x := range unlike() {
		l = append(l, x.setup())
	}
	for n := 1; n < 8; n++ {
		x := exps{tau: s.big()}
		for range n + 1 {
			x.powers, x.blinds = append(x.powers, s.big()), append(x.blinds, s.big())
		}
		one := made(t, s.big(), s.big(), n)
		short, _ := one.Trim(1 + s.below(n))
		l = append(l, x.setup(), one, short, other(one, n%ways))
	}
	for i, one := range l {
		b := bytesOf(t, one)
		back := got(t, b)
		wantSame(t, fmt.Sprint("the setup ", i), back, one)
		if again := bytesOf(t, back); !bytes.Equal(again, b) {
			t.Errorf("the setup %d, read, has other bytes", i)
		}
	}
}

// With one bit turned over they are no bytes of a setup, or those of another one, of
// which one point is another one: so it is not good.
func TestOtherBitsAreOtherSetups(t *testing.T) {
	b := expsOf(whole(2), whole(3), 1).text()
	seen := map[api.Errno]int{}
	var l []question
	for i := range b {
		if i > 1 && (i-2)%48 > 0 && i%5 > 0 {
			continue // to read points takes long
		}
		for bit := range 8 {
			turned := slices.Clone(b)
			turned[i] ^= 1 << bit
			s, e := srs.Get(turned)
			seen[e]++
			if e != api.OK {
				continue
			}
			if again := bytesOf(t, s); !bytes.Equal(again, turned) {
				t.Errorf("the bit %d of the byte %d: read, there are other bytes", bit, i)
			}
			l = append(l, question{fmt.Sprintf("the bit %d of the byte %d", bit, i), s, false})
		}
	}
	if len(l) != 5 || seen[api.OK] != 5 || seen[api.ErrForm] != 5 || seen[api.ErrArg] != 3 || seen[api.ErrShort] != 13 {
		t.Errorf("%v", seen) // a point's negative, the far one's form; the degrees 0, and above the greatest; 13 others
	}
	wantGood(t, l)
}

func TestUnlikeSetupsHaveUnlikeBytes(t *testing.T) {
	seen := map[string]string{}
	few := append(wholes(1, 2, 4), minus(1), minus(2), new(big.Int).ModInverse(whole(2), r))
	for n := 1; n <= 3; n++ {
		for _, tau := range few {
			for _, g := range few {
				what := fmt.Sprint(tau, g, n)
				b := string(bytesOf(t, made(t, tau, g, n)))
				if before, is := seen[b]; is {
					t.Errorf("%s and %s have the same bytes", before, what)
				}
				seen[b] = what
			}
		}
	}
}

// Of a good one the first blind and Tau tell all others: of those of one setup and the
// other points of another one, it is not good.
func TestGoodIsOfJustTwoScalars(t *testing.T) {
	var l []question
	pairs := []struct{ t, g int64 }{{2, 3}, {3, 2}, {2, 6}, {-2, 3}, {2, -3}, {1, 3}, {4, 3}}
	for i, x := range pairs {
		a := expsOf(whole(x.t), whole(x.g), 2)
		for j, y := range pairs {
			b := expsOf(whole(y.t), whole(y.g), 2)
			first := exps{a.powers, append([]*big.Int{b.blinds[0]}, a.blinds[1:]...), a.tau}
			l = append(l, ask(fmt.Sprint("the first blind of ", y, " in ", x), first))
			l = append(l, ask(fmt.Sprint("Tau of ", y, " in ", x), exps{a.powers, a.blinds, b.tau}))
			l = append(l, ask(fmt.Sprint("the powers of ", y, " in ", x), exps{b.powers, a.blinds, a.tau}))
			l = append(l, ask(fmt.Sprint("the blinds of ", y, " in ", x), exps{a.powers, b.blinds, a.tau}))
			if i == j && !l[len(l)-1].good {
				t.Errorf("%v is not good", x)
			}
		}
	}
	wantGood(t, l)
}

// A point of another setup stands in the place of one.
func TestDrawnPointsAmongOthers(t *testing.T) {
	s := numbers{state: 4}
	var l []question
	for range 40 {
		n := 1 + s.below(5)
		x := expsOf(s.big(), s.big(), n)
		switch i := s.below(2*n + 3); {
		case i <= n:
			x.powers[i] = s.big()
		case i <= 2*n+1:
			x.blinds[i-n-1] = s.big()
		default:
			x.tau = s.big()
		}
		l = append(l, ask(fmt.Sprint("a drawn point, of the degree ", n), x))
	}
	some(t, l, 0)
	wantGood(t, l)
}

// What is trimmed is as it would have been made.
func TestTrimmedIsMade(t *testing.T) {
	s := numbers{state: 5}
	for range 5 {
		tau, g := s.big(), s.big()
		long := made(t, tau, g, 6)
		for n := 1; n <= 6; n++ {
			short, e := long.Trim(n)
			if e != api.OK {
				t.Errorf("Trim(%d): %v", n, e)
				continue
			}
			wantSame(t, fmt.Sprint("trimmed to ", n), short, made(t, tau, g, n))
			if !bytes.Equal(bytesOf(t, short), bytesOf(t, made(t, tau, g, n))) {
				t.Errorf("trimmed to %d it has other bytes", n)
			}
		}
	}
}
