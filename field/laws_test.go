package field_test

import (
	"math/big"
	"slices"
	"testing"

	"marlinspike/api"
	"marlinspike/field"
)

// P2.4

func TestFromAndNatAreEachOthers(t *testing.T) {
	bothSizes(t, eachOthers[[4]uint64], eachOthers[[6]uint64], eachOthers[own])
}

func eachOthers[T field.Limbs](t test) {
	for _, m := range moduli(t.words) {
		f := made[T](t, m)
		told := map[T]string{}
		for _, b := range some(bigOf(m), 60) {
			a := fromBig(b)
			x, e := f.From(a)
			if e != api.OK || !slices.Equal(f.Nat(x), a) {
				t.Errorf("Nat of From(%x) by %x is %x", a, m, f.Nat(x))
			}
			if other, ok := told[x]; ok && other != b.String() {
				t.Errorf("%s and %s by %x are one array", other, b, m)
			}
			told[x] = b.String()
		}
	}
}

func TestElementsAreARing(t *testing.T) {
	bothSizes(t, ring[[4]uint64], ring[[6]uint64], ring[own])
}

func ring[T field.Limbs](t test) {
	for _, m := range moduli(t.words) {
		f := made[T](t, m)
		l := elements(t, f, some(bigOf(m), 6))
		for i, x := range l {
			alone(t, f, x)
			for j, y := range l {
				pair(t, f, x, y)
				triple(t, f, x, y, l[(3*i+5*j+1)%len(l)])
			}
		}
	}
}

func alone[T field.Limbs](t test, f *field.Field[T], x T) {
	var zero T
	one := element(t, f, 1)
	if f.Add(x, zero) != x || f.Sub(x, zero) != x || f.Mul(x, one) != x || f.Mul(x, zero) != zero {
		t.Errorf("%x with 0 and 1", x)
	}
	if f.Add(x, f.Neg(x)) != zero || f.Sub(zero, x) != f.Neg(x) || f.Neg(f.Neg(x)) != x || f.Mul(x, f.Neg(one)) != f.Neg(x) {
		t.Errorf("%x with its negative", x)
	}
	if f.Pow(x, nil) != one || f.Pow(x, []uint64{1}) != x || f.Pow(x, []uint64{2}) != f.Mul(x, x) {
		t.Errorf("%x and its powers", x)
	}
}

func pair[T field.Limbs](t test, f *field.Field[T], x, y T) {
	if f.Add(x, y) != f.Add(y, x) || f.Mul(x, y) != f.Mul(y, x) || f.Sub(x, y) != f.Neg(f.Sub(y, x)) {
		t.Errorf("%x and %x, turned", x, y)
	}
	if f.Sub(f.Add(x, y), y) != x || f.Add(f.Sub(x, y), y) != x {
		t.Errorf("%x put to %x and taken away", y, x)
	}
	both, e := f.Mul(x, y), []uint64{77, 0, 3}
	if f.Pow(both, e) != f.Mul(f.Pow(x, e), f.Pow(y, e)) {
		t.Errorf("powers of %x and %x", x, y)
	}
}

func triple[T field.Limbs](t test, f *field.Field[T], x, y, z T) {
	if f.Add(f.Add(x, y), z) != f.Add(x, f.Add(y, z)) || f.Mul(f.Mul(x, y), z) != f.Mul(x, f.Mul(y, z)) {
		t.Errorf("%x, %x, %x, put together", x, y, z)
	}
	if f.Mul(x, f.Add(y, z)) != f.Add(f.Mul(x, y), f.Mul(x, z)) {
		t.Errorf("%x times the sum of %x and %x", x, y, z)
	}
}

// Exponents together are powers' products; one after the other, powers of powers.
func TestExponents(t *testing.T) {
	bothSizes(t, exponents[[4]uint64], exponents[[6]uint64], exponents[own])
}

func exponents[T field.Limbs](t test) {
	for _, m := range moduli(t.words) {
		f := made[T](t, m)
		for _, x := range elements(t, f, some(bigOf(m), 2)) {
			for _, d := range [][]uint64{nil, {1}, {1<<64 - 1}, {5, 6, 7}} {
				for _, e := range [][]uint64{{0}, {3}, {0, 1}, {1<<64 - 1, 1<<64 - 1}} {
					sum := new(big.Int).Add(bigOf(d), bigOf(e))
					product := new(big.Int).Mul(bigOf(d), bigOf(e))
					if f.Mul(f.Pow(x, d), f.Pow(x, e)) != f.Pow(x, fromBig(sum)) || f.Pow(f.Pow(x, d), e) != f.Pow(x, fromBig(product)) {
						t.Errorf("%x to %x and %x by %x", x, d, e, m)
					}
				}
			}
		}
	}
}

// By a prime p every number's power by p is it itself, and the one by p - 2
// times it is 1.
func TestPrimes(t *testing.T) {
	primes[[4]uint64](test{t, 4}, []uint64{13}, power(127, -1), power(255, -19), curveOrder())
	primes[[6]uint64](test{t, 6}, []uint64{13}, power(127, -1), power(255, -19), curveOrder(), curvePrime())
}

func primes[T field.Limbs](t test, l ...[]uint64) {
	for _, p := range l {
		f, b := made[T](t, p), bigOf(p)
		if !b.ProbablyPrime(20) {
			t.Fatalf("%x is no prime", p)
		}
		one := element(t, f, 1)
		for _, x := range elements(t, f, some(b, 5)) {
			if f.Pow(x, p) != x {
				t.Errorf("%x to the %x", x, p)
			}
			inverse := f.Pow(x, fromBig(new(big.Int).Sub(b, big.NewInt(2))))
			if len(f.Nat(x)) > 0 && f.Mul(x, inverse) != one {
				t.Errorf("%x by %x has no inverse", x, p)
			}
		}
	}
}
