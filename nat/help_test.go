package nat_test

import (
	"math/big"
	"slices"
	"testing"

	"marlinspike/api"
)

// top is the greatest word.
const top = 1<<64 - 1

// words spares the tests the type's name.
func words(w ...uint64) []uint64 { return w }

// ones is a number of n words, each of them the greatest one.
func ones(n int) []uint64 {
	return slices.Repeat([]uint64{top}, n)
}

// with is a list and n words 0 behind it.
func with(w []uint64, n int) []uint64 {
	return append(slices.Clone(w), make([]uint64, n)...)
}

// numbers makes numbers for tests by a rule, so that every run has the same ones.
type numbers struct{ state uint64 }

func (s *numbers) word() uint64 {
	s.state += 0x9e3779b97f4a7c15
	z := s.state
	z = (z ^ z>>30) * 0xbf58476d1ce4e5b9
	z = (z ^ z>>27) * 0x94d049bb133111eb
	return z ^ z>>31
}

// below is a count from 0 to n - 1.
func (s *numbers) below(n int) int { return int(s.word() % uint64(n)) }

// list is a number of up to n words, many of which are 0, 1, 2^63 or the
// greatest: there carries and borrows go far.
func (s *numbers) list(n int) []uint64 {
	w := make([]uint64, s.below(n+1))
	for i := range w {
		switch s.below(8) {
		case 0:
			w[i] = 0
		case 1:
			w[i] = 1
		case 2:
			w[i] = top
		case 3:
			w[i] = 1 << 63
		default:
			w[i] = s.word()
		}
	}
	return w
}

// lists are numbers for laws: the edges first, then made ones of up to n words.
func lists(count, n int) [][]uint64 {
	l := [][]uint64{nil, {}, {0}, {0, 0}, {1}, {2}, {3, 0}, {top}, {top, 0}, {0, 1}, {1, 1}, {top, top},
		{1 << 63}, {0, 1 << 63}, {0, 0, 1}, {1, 0, 1, 0}, ones(3), with(words(7), n-1), with(nil, n), ones(n)}
	s := numbers{state: 1}
	for range count {
		l = append(l, s.list(n))
	}
	return l
}

// bigOf is the number by the library's own ones.
func bigOf(w []uint64) *big.Int {
	b := new(big.Int)
	for _, x := range slices.Backward(w) {
		b.Lsh(b, 64)
		b.Or(b, new(big.Int).SetUint64(x))
	}
	return b
}

// fromBig is the number in form.
func fromBig(b *big.Int) []uint64 {
	var w []uint64
	low := new(big.Int).SetUint64(top)
	for b = new(big.Int).Set(b); b.Sign() > 0; b.Rsh(b, 64) {
		w = append(w, new(big.Int).And(b, low).Uint64())
	}
	return w
}

// wantNumber fails if an answer isn't that number in form.
func wantNumber(t *testing.T, call string, got []uint64, e api.Errno, want []uint64) {
	t.Helper()
	if e != api.OK || !slices.Equal(got, want) {
		t.Errorf("%s = %x, %v, not %x", call, got, e, want)
	}
}

// wantError fails if an answer isn't that error, with nothing beside it.
func wantError[T any](t *testing.T, call string, got []T, e, want api.Errno) {
	t.Helper()
	if e != want || len(got) != 0 {
		t.Errorf("%s = %v, %v, not %v alone", call, got, e, want)
	}
}
