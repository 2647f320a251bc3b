package nat_test

import (
	"math/big"
	"slices"
	"testing"

	"marlinspike/api"
	"marlinspike/nat"
)

// P1.5, and P1.1 to P1.4 held against the library's numbers.

// sum and product are of numbers that are short enough.
func sum(t *testing.T, a, b []uint64) []uint64 {
	t.Helper()
	s, e := nat.Add(a, b)
	if e != api.OK {
		t.Fatalf("Add(%x, %x): %v", a, b, e)
	}
	return s
}

func product(t *testing.T, a, b []uint64) []uint64 {
	t.Helper()
	p, e := nat.Mul(a, b)
	if e != api.OK {
		t.Fatalf("Mul(%x, %x): %v", a, b, e)
	}
	return p
}

func TestOneNumberAgainstLibrary(t *testing.T) {
	for _, a := range lists(300, api.MaxWords) {
		x := bigOf(a)
		if got := nat.Of(a...); !slices.Equal(got, fromBig(x)) {
			t.Errorf("Of(%x) = %x", a, got)
		}
		if got := nat.Bits(a); got != x.BitLen() {
			t.Errorf("Bits(%x) = %d", a, got)
		}
		for _, i := range []int{0, 1, 63, 64, 65, 127, 128, x.BitLen() - 1, x.BitLen(), 64 * api.MaxWords} {
			if i >= 0 && nat.Bit(a, i) != uint64(x.Bit(i)) {
				t.Errorf("Bit(%x, %d)", a, i)
			}
		}
		n := (x.BitLen() + 7) / 8
		b, e := nat.Bytes(a, n)
		if e != api.OK || !slices.Equal(b, x.Bytes()) {
			t.Errorf("Bytes(%x, %d) = %x, %v", a, n, b, e)
		}
		back, e := nat.FromBytes(b)
		wantNumber(t, "FromBytes of Bytes", back, e, nat.Of(a...))
		if n > 0 {
			b, e = nat.Bytes(a, n-1)
			wantError(t, "Bytes, one too few", b, e, api.ErrArg)
		}
	}
}

func TestPairsAgainstLibrary(t *testing.T) {
	l := lists(60, api.MaxWords)
	l = append(l, lists(60, 6)...)
	for _, a := range l {
		for _, b := range l {
			x, y := bigOf(a), bigOf(b)
			if got := nat.Cmp(a, b); got != x.Cmp(y) {
				t.Errorf("Cmp(%x, %x) = %d", a, b, got)
			}
			wantNumber(t, "Add", sum(t, a, b), api.OK, fromBig(new(big.Int).Add(x, y)))
			wantNumber(t, "Mul", product(t, a, b), api.OK, fromBig(new(big.Int).Mul(x, y)))
			left, e := nat.Sub(a, b)
			if x.Cmp(y) < 0 {
				wantError(t, "Sub", left, e, api.ErrArg)
			} else {
				wantNumber(t, "Sub", left, e, fromBig(new(big.Int).Sub(x, y)))
			}
		}
	}
}

// DivMod's numbers are chosen by size: a quotient of no word, of one, of many.
func TestDivisionAgainstLibrary(t *testing.T) {
	s := numbers{state: 2}
	for i := range 3000 {
		n := 1 + i%api.MaxWords
		a, b := s.list(n), s.list(1+s.below(n))
		x, y := bigOf(a), bigOf(b)
		quotient, rest, e := nat.DivMod(a, b)
		if y.Sign() == 0 {
			wantError(t, "DivMod by 0", append(quotient, rest...), e, api.ErrZero)
			continue
		}
		q, r := new(big.Int).QuoRem(x, y, new(big.Int))
		wantNumber(t, "DivMod's quotient", quotient, e, fromBig(q))
		wantNumber(t, "DivMod's rest", rest, e, fromBig(r))
	}
}

func TestSumsAndProductsHangOnNoOrder(t *testing.T) {
	l := lists(12, 20)
	for i, a := range l {
		for j, b := range l {
			if !slices.Equal(sum(t, a, b), sum(t, b, a)) || !slices.Equal(product(t, a, b), product(t, b, a)) {
				t.Errorf("%x and %x, turned", a, b)
			}
			c := l[(i+7*j+3)%len(l)]
			if !slices.Equal(sum(t, sum(t, a, b), c), sum(t, a, sum(t, b, c))) {
				t.Errorf("the sum of %x, %x, %x", a, b, c)
			}
			if !slices.Equal(product(t, product(t, a, b), c), product(t, a, product(t, b, c))) {
				t.Errorf("the product of %x, %x, %x", a, b, c)
			}
			if !slices.Equal(product(t, a, sum(t, b, c)), sum(t, product(t, a, b), product(t, a, c))) {
				t.Errorf("%x times the sum of %x, %x", a, b, c)
			}
		}
	}
}

func TestWhatIsPutAndTakenAway(t *testing.T) {
	l := lists(40, api.MaxWords-1)
	for _, a := range l {
		for _, b := range l {
			left, e := nat.Sub(sum(t, a, b), b)
			wantNumber(t, "a + b - b", left, e, nat.Of(a...))
		}
	}
}

func TestQuotientAndRest(t *testing.T) {
	l := lists(40, api.MaxWords)
	for _, a := range l {
		for _, b := range l {
			if nat.Bits(b) == 0 {
				continue
			}
			quotient, rest, e := nat.DivMod(a, b)
			wantNumber(t, "quotient times divisor, and rest", sum(t, product(t, quotient, b), rest), e, nat.Of(a...))
			if nat.Cmp(rest, b) >= 0 {
				t.Errorf("DivMod(%x, %x): the rest %x isn't less", a, b, rest)
			}
		}
	}
}
