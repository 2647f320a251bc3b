package nat_test

import (
	"math"
	"slices"
	"testing"

	"marlinspike/api"
	"marlinspike/nat"
)

// R1 to R4 for this layer's calls.

// calls are all that take two numbers and tell numbers.
func calls() map[string]func(a, b []uint64) [][]uint64 {
	return map[string]func(a, b []uint64) [][]uint64{
		"Of": func(a, b []uint64) [][]uint64 { return [][]uint64{nat.Of(a...), nat.Of(b...)} },
		"Add": func(a, b []uint64) [][]uint64 {
			s, _ := nat.Add(a, b)
			return [][]uint64{s}
		},
		"Sub": func(a, b []uint64) [][]uint64 {
			d, _ := nat.Sub(a, b)
			return [][]uint64{d}
		},
		"Mul": func(a, b []uint64) [][]uint64 {
			p, _ := nat.Mul(a, b)
			return [][]uint64{p}
		},
		"DivMod": func(a, b []uint64) [][]uint64 {
			q, r, _ := nat.DivMod(a, b)
			return [][]uint64{q, r}
		},
	}
}

// spoil overwrites a list and the spare room behind it.
func spoil(l []uint64) {
	for i := range l[:cap(l)] {
		l[:cap(l)][i] = 0xdead
	}
}

// roomy is the list with room behind its end that nobody may touch.
func roomy(l []uint64) []uint64 {
	return append(append(make([]uint64, 0, len(l)+4), l...), 11, 12, 13, 14)[:len(l)]
}

func TestNumbersAreNotChangedAndNotKept(t *testing.T) {
	l := lists(15, 8)
	for name, call := range calls() {
		for _, a := range l {
			for _, b := range l {
				p, q := roomy(a), roomy(b)
				first := call(p, q)
				if !slices.Equal(p[:cap(p)], roomy(a)[:cap(p)]) || !slices.Equal(q[:cap(q)], roomy(b)[:cap(q)]) {
					t.Fatalf("%s(%x, %x) changed what it was handed", name, a, b)
				}
				want := call(slices.Clone(a), slices.Clone(b))
				spoil(p)
				spoil(q)
				for i := range first {
					if !slices.Equal(first[i], want[i]) {
						t.Fatalf("%s(%x, %x) told memory that it was handed", name, a, b)
					}
				}
			}
		}
	}
}

func TestAnswersShareNothing(t *testing.T) {
	l := lists(15, 8)
	for name, call := range calls() {
		for _, a := range l {
			for _, b := range l {
				want := call(a, b)
				for i := range want {
					if !spoiledAlone(call, a, b, i, want) {
						t.Fatalf("%s(%x, %x): the answer's list %d shares memory", name, a, b, i)
					}
				}
			}
		}
	}
}

// spoiledAlone tells whether writing into the answer's list i, and behind it,
// shows in no other list, in no argument and in no later answer.
func spoiledAlone(call func(a, b []uint64) [][]uint64, a, b []uint64, i int, want [][]uint64) bool {
	p, q := roomy(a), roomy(b)
	got := call(p, q)
	spoil(got[i])
	alone := slices.Equal(p[:cap(p)], roomy(a)[:cap(p)]) && slices.Equal(q[:cap(q)], roomy(b)[:cap(q)])
	for j, again := range call(a, b) {
		alone = alone && slices.Equal(again, want[j]) && (j == i || slices.Equal(got[j], want[j]))
	}
	return alone
}

// One list may be both arguments.
func TestSameListTwice(t *testing.T) {
	for _, a := range lists(40, 12) {
		b := slices.Clone(a)
		for name, call := range calls() {
			got, want := call(a, a), call(a, b)
			for i := range got {
				if !slices.Equal(got[i], want[i]) || !slices.Equal(a, b) {
					t.Fatalf("%s(%x, itself) = %x", name, a, got)
				}
			}
		}
	}
}

func TestBytesAreNotChangedAndNotKept(t *testing.T) {
	b := []byte{0, 1, 2, 3, 4, 5, 6, 7, 8, 9, 77, 78}
	number, _ := nat.FromBytes(b[:10])
	spoil(number)
	if !slices.Equal(b, []byte{0, 1, 2, 3, 4, 5, 6, 7, 8, 9, 77, 78}) {
		t.Fatalf("FromBytes changed its bytes: %x", b)
	}
	a := roomy(words(5, 6))
	told, _ := nat.Bytes(a, 16)
	clear(told[:cap(told)])
	if !slices.Equal(a[:cap(a)], words(5, 6, 11, 12, 13, 14)) {
		t.Fatalf("Bytes changed its number: %x", a[:cap(a)])
	}
	again, _ := nat.Bytes(a, 16)
	if !slices.Equal(again, []byte{0, 0, 0, 0, 0, 0, 0, 6, 0, 0, 0, 0, 0, 0, 0, 5}) {
		t.Fatalf("Bytes, again: %x", again)
	}
}

// All numbers that are told are in form.
func TestAnswersAreInForm(t *testing.T) {
	l := lists(40, api.MaxWords)
	for name, call := range calls() {
		for _, a := range l {
			for _, b := range l {
				for _, got := range call(a, b) {
					if len(got) > 0 && got[len(got)-1] == 0 {
						t.Fatalf("%s(%x, %x) = %x isn't in form", name, a, b, got)
					}
				}
			}
		}
	}
}

// Nothing panics, whatever is handed in.
func TestNothingPanics(t *testing.T) {
	odd := []int{math.MinInt, math.MinInt + 1, -65, -64, -8, -1, 0, 1, 8, 63, 64, 65, 639, 640, 641, math.MaxInt - 1, math.MaxInt}
	l := append(lists(5, api.MaxWords+3), make([]uint64, 100000), ones(100000))
	for _, a := range l {
		for _, i := range odd {
			nat.Bit(a, i)
			nat.Bytes(a, i)
		}
		nat.Bits(a)
		for _, b := range l {
			nat.Cmp(a, b)
			for _, call := range calls() {
				call(a, b)
			}
		}
	}
}
