package field_test

import (
	"math/big"
	"slices"
	"testing"

	"marlinspike/api"
	"marlinspike/field"
)

// P2.1

func TestNewAndModulus(t *testing.T) {
	bothSizes(t, newAndModulus[[4]uint64], newAndModulus[[6]uint64], newAndModulus[own])
}

func newAndModulus[T field.Limbs](t test) {
	for _, m := range moduli(t.words) {
		for _, zeros := range []int{0, 1, 5, api.MaxWords - len(m)} {
			f := made[T](t, append(slices.Clone(m), make([]uint64, zeros)...))
			if got := f.Modulus(); !slices.Equal(got, m) {
				t.Errorf("Modulus of %x, and %d words 0, is %x", m, zeros, got)
			}
		}
	}
}

func TestNewRefuses(t *testing.T) {
	bothSizes(t, newRefuses[[4]uint64], newRefuses[[6]uint64], newRefuses[own])
}

func newRefuses[T field.Limbs](t test) {
	end := uint(64 * t.words)
	long := make([]uint64, api.MaxWords+1)
	for _, c := range []struct {
		m    []uint64
		want api.Errno
	}{
		{nil, api.ErrArg},
		{[]uint64{}, api.ErrArg},
		{[]uint64{0}, api.ErrArg},
		{[]uint64{0, 0, 0}, api.ErrArg},
		{[]uint64{1}, api.ErrArg},
		{[]uint64{1, 0, 0, 0, 0, 0, 0}, api.ErrArg},
		{[]uint64{2}, api.ErrArg},
		{[]uint64{4}, api.ErrArg},
		{[]uint64{12}, api.ErrArg},
		{[]uint64{0, 1}, api.ErrArg},
		{[]uint64{2, 1}, api.ErrArg},
		{power(end-2, 0), api.ErrArg},
		{power(end-1, -2), api.ErrArg},
		{power(end-1, 0), api.ErrArg},
		{power(end-1, 1), api.ErrArg}, // odd, but a bit more than there may be
		{power(end, -1), api.ErrArg},
		{power(end, 1), api.ErrArg},
		{power(64*api.MaxWords, -1), api.ErrArg},
		{long[:api.MaxWords], api.ErrArg},
		{long, api.ErrLong},
		{append([]uint64{13}, long[1:]...), api.ErrLong}, // it would do, without its words 0
		{append([]uint64{12}, long[1:]...), api.ErrLong},
		{power(64*api.MaxWords, 1), api.ErrLong},
		{make([]uint64, 100000), api.ErrLong},
	} {
		f, e := field.New[T](c.m)
		if f != nil || e != c.want {
			t.Errorf("New(%x): %v, not %v alone", c.m, e, c.want)
		}
	}
}

// What is too great for the one size may do for the other one.
func TestNewBySize(t *testing.T) {
	m := power(255, 1)
	if f, e := field.New[[4]uint64](m); f != nil || e != api.ErrArg {
		t.Errorf("2^255 + 1, 4 words: %v", e)
	}
	if f, e := field.New[[6]uint64](m); e != api.OK || !slices.Equal(f.Modulus(), m) {
		t.Errorf("2^255 + 1, 6 words: %v", e)
	}
}

// P2.2

func TestFromAndNat(t *testing.T) {
	bothSizes(t, fromAndNat[[4]uint64], fromAndNat[[6]uint64], fromAndNat[own])
}

func fromAndNat[T field.Limbs](t test) {
	full := slices.Repeat([]uint64{1<<64 - 1}, api.MaxWords)
	for _, m := range moduli(t.words) {
		f, b := made[T](t, m), bigOf(m)
		lists := [][]uint64{nil, {}, {0}, {0, 0}, {1}, {1, 0, 0, 0, 0, 0, 0}, {20}, {1<<64 - 1}, {0, 1},
			full, full[:1], full[:3], full[:4], full[:5], full[:6], full[:7], full[:11], full[:12], full[:13],
			make([]uint64, api.MaxWords), append(slices.Clone(m), make([]uint64, api.MaxWords-len(m))...)}
		for _, off := range []int64{-2, -1, 0, 1, 2} {
			for _, times := range []int64{1, 2, 3} {
				c := new(big.Int).Mul(b, big.NewInt(times))
				lists = append(lists, fromBig(c.Add(c, big.NewInt(off))))
			}
		}
		lists = append(lists, fromBig(new(big.Int).Mul(b, b)), power(64*api.MaxWords-1, 0), power(uint(64*t.words), 0))
		var others numbers
		for n := range api.MaxWords {
			lists = append(lists, fromBig(others.below(bigOf(full[:n+1]))))
		}
		for _, a := range lists {
			x, e := f.From(a)
			if e != api.OK {
				t.Errorf("From(%x) by %x: %v", a, m, e)
			}
			want(t, f, "From", x, bigOf(a))
		}
	}
}

func TestFromRefuses(t *testing.T) {
	bothSizes(t, fromRefuses[[4]uint64], fromRefuses[[6]uint64], fromRefuses[own])
}

func fromRefuses[T field.Limbs](t test) {
	var zero T
	for _, m := range moduli(t.words) {
		f := made[T](t, m)
		for _, a := range [][]uint64{
			make([]uint64, api.MaxWords+1),
			append([]uint64{7}, make([]uint64, api.MaxWords)...),
			slices.Repeat([]uint64{5}, api.MaxWords+1),
			make([]uint64, 100000),
		} {
			if x, e := f.From(a); x != zero || e != api.ErrLong {
				t.Errorf("From of %d words: %x, %v", len(a), x, e)
			}
		}
	}
}

// The zero array stands for 0, and nothing else does.
func TestZero(t *testing.T) {
	bothSizes(t, zero[[4]uint64], zero[[6]uint64], zero[own])
}

func zero[T field.Limbs](t test) {
	var none T
	for _, m := range moduli(t.words) {
		f := made[T](t, m)
		one, last := element(t, f, 1), element(t, f, fromBig(new(big.Int).Sub(bigOf(m), big.NewInt(1)))...)
		if len(f.Nat(none)) != 0 || element(t, f) != none || element(t, f, 0, 0) != none || element(t, f, m...) != none {
			t.Errorf("0 by %x", m)
		}
		if one == none || last == none || one == last {
			t.Errorf("1 and -1 by %x", m)
		}
		if f.Add(one, last) != none || f.Sub(last, last) != none || f.Neg(none) != none || f.Mul(none, last) != none {
			t.Errorf("ways to 0 by %x", m)
		}
	}
}

// P2.3

// By small moduli all is gone through, and held against small numbers.
func TestSmallModuli(t *testing.T) {
	bothSizes(t, smallModuli[[4]uint64], smallModuli[[6]uint64], smallModuli[own])
}

func smallModuli[T field.Limbs](t test) {
	for _, m := range []uint64{3, 5, 7, 9, 13, 15, 21} {
		f := made[T](t, []uint64{m})
		for a := range m {
			x := element(t, f, a)
			small(t, f, "Neg", f.Neg(x), (m-a)%m)
			for b := range m {
				y := element(t, f, b)
				if (x == y) != (a == b) {
					t.Errorf("%d and %d by %d", a, b, m)
				}
				small(t, f, "Add", f.Add(x, y), (a+b)%m)
				small(t, f, "Sub", f.Sub(x, y), (a+m-b)%m)
				small(t, f, "Mul", f.Mul(x, y), a*b%m)
			}
			power := uint64(1)
			for e := range 2 * m {
				small(t, f, "Pow", f.Pow(x, []uint64{e}), power)
				power = power * a % m
			}
		}
	}
}

func small[T field.Limbs](t test, f *field.Field[T], call string, x T, n uint64) {
	t.Helper()
	want(t, f, call, x, new(big.Int).SetUint64(n))
}

func TestAgainstLibrary(t *testing.T) {
	bothSizes(t, againstLibrary[[4]uint64], againstLibrary[[6]uint64], againstLibrary[own])
}

func againstLibrary[T field.Limbs](t test) {
	for _, m := range moduli(t.words) {
		f := made[T](t, m)
		l := some(bigOf(m), 12)
		x := elements(t, f, l)
		for i, a := range l {
			want(t, f, "Neg", f.Neg(x[i]), new(big.Int).Neg(a))
			for j, b := range l {
				want(t, f, "Add", f.Add(x[i], x[j]), new(big.Int).Add(a, b))
				want(t, f, "Sub", f.Sub(x[i], x[j]), new(big.Int).Sub(a, b))
				want(t, f, "Mul", f.Mul(x[i], x[j]), new(big.Int).Mul(a, b))
			}
		}
	}
}

func TestPow(t *testing.T) {
	bothSizes(t, pow[[4]uint64], pow[[6]uint64], pow[own])
}

func pow[T field.Limbs](t test) {
	full := slices.Repeat([]uint64{1<<64 - 1}, api.MaxWords+1)
	exponents := [][]uint64{nil, {}, {0}, {0, 0, 0}, {1}, {1, 0, 0}, {2}, {3}, {5}, {64}, {1 << 63}, {1<<64 - 1}, {0, 1}, {1, 1},
		{0, 0, 0, 0, 0, 0, 1}, {3, 0, 0, 0, 0, 0, 0, 0, 5}, full[:4], full[:6], make([]uint64, api.MaxWords+9),
		append([]uint64{6}, make([]uint64, api.MaxWords)...)}
	long := [][]uint64{full, append(make([]uint64, api.MaxWords+1), 5)}
	for _, m := range moduli(t.words) {
		f, b := made[T](t, m), bigOf(m)
		var others numbers
		for _, base := range []*big.Int{new(big.Int), big.NewInt(1), big.NewInt(2), new(big.Int).Sub(b, big.NewInt(1)), others.below(b)} {
			l := append(exponents, m, fromBig(new(big.Int).Sub(b, big.NewInt(1))))
			if base.Cmp(big.NewInt(2)) == 0 {
				l = append(l, long...)
			}
			x := element(t, f, fromBig(base)...)
			for _, e := range l {
				want(t, f, "Pow", f.Pow(x, e), new(big.Int).Exp(base, bigOf(e), b))
			}
		}
	}
}

// The document's examples.
func TestExamples(t *testing.T) {
	bothSizes(t, examples[[4]uint64], examples[[6]uint64], examples[own])
}

func examples[T field.Limbs](t test) {
	f := made[T](t, []uint64{13})
	of := func(n uint64) T { return element(t, f, n) }
	small(t, f, "From(20)", of(20), 7)
	small(t, f, "Add(7, 9)", f.Add(of(7), of(9)), 3)
	small(t, f, "Sub(3, 5)", f.Sub(of(3), of(5)), 11)
	small(t, f, "Neg(0)", f.Neg(of(0)), 0)
	small(t, f, "Mul(5, 8)", f.Mul(of(5), of(8)), 1)
	small(t, f, "Pow(2, 12)", f.Pow(of(2), []uint64{12}), 1)
	small(t, f, "Pow(0, 0)", f.Pow(of(0), nil), 1)
}
