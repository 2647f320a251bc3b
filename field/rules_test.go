package field_test

import (
	"math/big"
	"slices"
	"sync"
	"testing"

	"marlinspike/api"
	"marlinspike/field"
)

// R1 to R4 for this layer's calls.

func TestNoField(t *testing.T) {
	bothSizes(t, noField[[4]uint64], noField[[6]uint64], noField[own])
}

// A nil field, and one that didn't come out of New, have no numbers.
func noField[T field.Limbs](t test) {
	var zero T
	f := made[T](t, []uint64{13})
	for _, none := range []*field.Field[T]{nil, new(field.Field[T])} {
		if len(none.Modulus()) != 0 {
			t.Errorf("Modulus: %x", none.Modulus())
		}
		for _, a := range [][]uint64{nil, {}, {0}, {7}, greatest(t.words), make([]uint64, api.MaxWords), make([]uint64, api.MaxWords+1), make([]uint64, 1000)} {
			if x, e := none.From(a); x != zero || e != api.ErrArg {
				t.Errorf("From of %d words: %x, %v", len(a), x, e)
			}
		}
		for _, x := range []T{zero, element(t, f, 1), element(t, f, 7), ones[T](t)} {
			if len(none.Nat(x)) != 0 {
				t.Errorf("Nat(%x) = %x", x, none.Nat(x))
			}
			for call, got := range map[string]T{
				"Add": none.Add(x, x), "Sub": none.Sub(zero, x), "Neg": none.Neg(x), "Mul": none.Mul(x, x),
				"Pow to nothing": none.Pow(x, nil), "Pow to 1": none.Pow(x, []uint64{1}), "Pow": none.Pow(x, []uint64{5, 6, 7}),
			} {
				if got != zero {
					t.Errorf("%s of %x = %x", call, x, got)
				}
			}
		}
	}
}

// ones is the array of the greatest words, that no field tells.
func ones[T field.Limbs](t test) (x T) {
	for i := range t.words {
		x[i] = 1<<64 - 1
	}
	return x
}

// Nothing panics, not even where an array is none of the field's.
func TestNothingPanics(t *testing.T) {
	bothSizes(t, nothingPanics[[4]uint64], nothingPanics[[6]uint64], nothingPanics[own])
}

func nothingPanics[T field.Limbs](t test) {
	lists := [][]uint64{nil, {0}, {5}, {1<<64 - 1}, make([]uint64, 7), make([]uint64, 20000), append(make([]uint64, 500), 3)}
	for _, m := range moduli(t.words) {
		f := made[T](t, m)
		var zero T
		for _, x := range []T{zero, ones[T](t), element(t, f, 1)} {
			for _, y := range []T{zero, ones[T](t), element(t, f, 3)} {
				f.Add(x, y)
				f.Sub(x, y)
				f.Mul(x, y)
			}
			f.Neg(x)
			f.Nat(x)
			for _, e := range lists {
				f.Pow(x, e)
				f.From(e)
				field.New[T](e)
			}
		}
	}
}

// roomy is the list with room behind its end that nobody may touch.
func roomy(l []uint64) []uint64 {
	return append(append(make([]uint64, 0, len(l)+4), l...), 11, 12, 13, 14)[:len(l)]
}

// spoil overwrites a list and the spare room behind it.
func spoil(l []uint64) {
	for i := range l[:cap(l)] {
		l[:cap(l)][i] = 0xdead
	}
}

// untouched tells whether a list made by roomy, and its room, are as they were.
func untouched(l, was []uint64) bool {
	return slices.Equal(l[:cap(l)], append(slices.Clone(was), 11, 12, 13, 14))
}

func TestListsAreNotChangedAndNotKept(t *testing.T) {
	bothSizes(t, listsStay[[4]uint64], listsStay[[6]uint64], listsStay[own])
}

func listsStay[T field.Limbs](t test) {
	a, e := []uint64{9, 8, 7, 6, 5, 4, 3, 2, 1, 0}, []uint64{3, 0, 1, 0}
	for _, m := range moduli(t.words) {
		padded := append(slices.Clone(m), 0)
		handed := roomy(padded)
		f := made[T](t, handed)
		x, y := roomy(a), roomy(e)
		first := element(t, f, x...)
		power := f.Pow(first, y)
		if !untouched(handed, padded) || !untouched(x, a) || !untouched(y, e) {
			t.Errorf("by %x: a list was changed", m)
		}
		spoil(handed)
		spoil(x)
		spoil(y)
		if !slices.Equal(f.Modulus(), m) {
			t.Errorf("the modulus %x became %x", m, f.Modulus())
		}
		want(t, f, "From", first, bigOf(a))
		want(t, f, "Pow", power, new(big.Int).Exp(bigOf(a), bigOf(e), bigOf(m)))
	}
}

func TestAnswersAreNewMemory(t *testing.T) {
	bothSizes(t, newMemory[[4]uint64], newMemory[[6]uint64], newMemory[own])
}

func newMemory[T field.Limbs](t test) {
	for _, m := range moduli(t.words) {
		f := made[T](t, m)
		last := fromBig(new(big.Int).Sub(bigOf(m), big.NewInt(1)))
		x := element(t, f, last...)
		spoil(f.Modulus())
		spoil(f.Nat(x))
		if !slices.Equal(f.Modulus(), m) || !slices.Equal(f.Nat(x), last) {
			t.Errorf("by %x: an answer shows what was written into another one", m)
		}
		want(t, f, "Mul", f.Mul(x, x), big.NewInt(1))
	}
}

// Fields know nothing of each other, nor of what was asked before.
func TestFieldsSideBySide(t *testing.T) {
	bothSizes(t, sideBySide[[4]uint64], sideBySide[[6]uint64], sideBySide[own])
}

func sideBySide[T field.Limbs](t test) {
	all := moduli(t.words)
	var fields []*field.Field[T]
	for _, m := range all {
		fields = append(fields, made[T](t, m))
	}
	a, e := bigOf([]uint64{5, 6, 7, 8}), []uint64{0, 2}
	for range 2 {
		for i, f := range fields {
			x := element(t, f, fromBig(a)...)
			if x != element(t, made[T](t, all[i]), fromBig(a)...) {
				t.Errorf("two fields by %x tell two arrays", all[i])
			}
			want(t, f, "Pow", f.Pow(x, e), new(big.Int).Exp(a, bigOf(e), bigOf(all[i])))
			field.New[T]([]uint64{12})
		}
	}
}

// One field may be asked by many at once.
func TestFieldIsSharedByMany(t *testing.T) {
	f, e := field.New[[4]uint64](curveOrder())
	if e != api.OK {
		t.Fatal(e)
	}
	var all sync.WaitGroup
	for n := range uint64(8) {
		all.Go(func() {
			for i := range uint64(200) {
				x, _ := f.From([]uint64{n, i})
				if !slices.Equal(f.Nat(f.Sub(f.Mul(x, x), f.Pow(x, []uint64{2}))), nil) || !slices.Equal(f.Modulus(), curveOrder()) {
					t.Error("a field that is shared")
				}
			}
		})
	}
	all.Wait()
}
