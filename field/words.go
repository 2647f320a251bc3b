package field

import (
	"math/bits"

	"marlinspike/nat"
)

const wordBits = 64

// put lays in every place of z what word makes for it, from the lowest on, as
// carries go.
func put[T Limbs](z *T, word func(i int) uint64) {
	for i := range len(*z) {
		(*z)[i] = word(i)
	}
}

// putSum lays x and y together in z; it goes round.
func putSum[T Limbs](z, x, y *T) {
	var carry uint64
	put(z, func(i int) (sum uint64) {
		sum, carry = bits.Add64((*x)[i], (*y)[i], carry)
		return sum
	})
}

// putLeft lays x without y in z; it goes round, and tells 1 if it does.
func putLeft[T Limbs](z, x, y *T) (borrow uint64) {
	put(z, func(i int) (left uint64) {
		left, borrow = bits.Sub64((*x)[i], (*y)[i], borrow)
		return left
	})
	return borrow
}

// addProduct is a and b and x times y, the high word first.
func addProduct(a, b, x, y uint64) (uint64, uint64) {
	high, low := bits.Mul64(x, y)
	low, carry := bits.Add64(low, a, 0)
	high, _ = bits.Add64(high, 0, carry)
	low, carry = bits.Add64(low, b, 0)
	high, _ = bits.Add64(high, 0, carry)
	return high, low
}

// less tells whether x is less than y.
func less[T Limbs](x, y *T) bool {
	for i := len(*x) - 1; i >= 0; i-- {
		if (*x)[i] != (*y)[i] {
			return (*x)[i] < (*y)[i]
		}
	}
	return false
}

// array are the lowest words of a list, and words 0 where it has no more.
func array[T Limbs](w []uint64) (x T) {
	for i := range min(len(w), len(x)) {
		x[i] = w[i]
	}
	return x
}

// list is the number of an array's words, in form.
func list[T Limbs](x T) []uint64 {
	w := make([]uint64, len(x))
	for i := range w {
		w[i] = x[i]
	}
	return nat.Of(w...)
}

// undoing is the word that times an odd one is -1, modulo 2^64.
func undoing(odd uint64) uint64 {
	inverse := odd // right in its 3 lowest bits; each step makes twice as many so
	for range 5 {
		inverse *= 2 - odd*inverse
	}
	return -inverse
}
