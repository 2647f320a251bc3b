package script

import (
	"slices"
	"strconv"
	"testing"

	"marlinspike/fr"
	"marlinspike/nat"
)

// P16.2, what cannot be asked from without: no test finds a script whose challenge is a
// root of 1. So here Outside's loop is given challenges that are.

// roots are scalars of that order.
func roots(t *testing.T, order int) []fr.El {
	t.Helper()
	less, _ := nat.Sub(fr.Modulus(), nat.Of(1))
	exponent, left, _ := nat.DivMod(less, nat.Of(uint64(order)))
	if len(left) > 0 {
		t.Fatalf("there is none of the order %d", order)
	}
	for base := int64(2); base < 1000; base++ {
		root, power := fr.Of(base).Pow(exponent), fr.Of(1)
		var l []fr.El
		for range order {
			l = append(l, power)
			power = power.Mul(root)
		}
		if !slices.Contains(l[1:], fr.Of(1)) {
			return l
		}
	}
	t.Fatalf("none of the order %d was found", order)
	return nil
}

// wantTaken holds which of the challenges is taken, and that none is drawn behind it.
func wantTaken(t *testing.T, n int, l []fr.El, wanted int) {
	t.Helper()
	drawn := 0
	x := outside(n, func(yield func(fr.El) bool) {
		for _, x := range l {
			drawn++
			if !yield(x) {
				return
			}
		}
	})
	if x != l[wanted] || drawn != wanted+1 {
		t.Errorf("of n %d: %x is taken, the challenge %d, not %d", n, x.Scalar(), drawn-1, wanted)
	}
}

func TestRootsArePassedOver(t *testing.T) {
	others := []fr.El{fr.Of(2), fr.Of(0), fr.Of(7), fr.Of(1), fr.Of(3)}
	for _, c := range []struct{ n, order int }{
		{1, 1}, {2, 1}, {2, 2}, {3, 1}, {3, 3}, {4, 2}, {4, 4}, {5, 5}, {6, 2}, {6, 3}, {6, 6}, {7, 7}, {8, 8}, {9, 3}, {10, 10}, {12, 4}, {12, 12}, {13, 13},
		{15, 15}, {16, 16}, {17, 1}, {256, 256}, {257, 1}, {499, 499}, {998, 998}, {1365, 1365}, {32768, 8}, {32768, 512}, {65535, 15}, {65536, 1}, {65536, 2}, {65536, 4096},
	} {
		l := roots(t, c.order)
		wantTaken(t, c.n, append(slices.Clone(l), others...), len(l))
		for _, other := range []fr.El{fr.Of(0), fr.Of(2), fr.Of(-2)} {
			for i, root := range l[:min(len(l), 20)] {
				wantTaken(t, c.n, []fr.El{other, root, other}, 0)
				wantTaken(t, c.n, []fr.El{root, other, root}, 1)
				wantTaken(t, c.n, append(slices.Repeat([]fr.El{root}, i), other, fr.Of(5)), i)
			}
		}
	}
}

// A root of 1 is taken if its order does not divide n.
func TestRootsOfOtherOrders(t *testing.T) {
	orders := []int{1, 2, 3, 4, 5, 6, 7, 8, 10, 12, 13, 14, 15, 16, 32, 64}
	for n := 1; n <= 130; n++ {
		for _, order := range orders {
			for i, root := range roots(t, order) {
				wanted := 0
				if n*i%order == 0 {
					wanted = 1
				}
				wantTaken(t, n, []fr.El{root, fr.Of(2)}, wanted)
			}
		}
	}
}

// Challenges go on without an end, as Draw's do, and stop where they are broken off.
func TestChallengesOneByOne(t *testing.T) {
	s, _ := New("one by one")
	other := s.Clone()
	for n := range 20 {
		i := 0
		for x := range s.challenges() {
			if y, _ := other.Draw(); x != y {
				t.Errorf("the challenge %d of %d is another one", i, n)
			}
			if i++; i > n {
				break
			}
		}
		if i != n+1 || *s != *other {
			t.Fatal(strconv.Itoa(n) + ": fewer were drawn than taken, or more")
		}
	}
}
