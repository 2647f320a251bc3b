package nat

import (
	"iter"
	"math/bits"

	"marlinspike/api"
)

const (
	wordBits  = 64
	wordBytes = wordBits / 8
)

// inForm is a list without the words 0 at its end, in the memory of that list.
func inForm(w []uint64) []uint64 {
	n := len(w)
	for n > 0 && w[n-1] == 0 {
		n--
	}
	return w[:n]
}

// tooLong tells whether one of the lists is beyond the limit.
func tooLong(lists ...[]uint64) bool {
	for _, l := range lists {
		if len(l) > api.MaxWords {
			return true
		}
	}
	return false
}

// word is one of a number's words: there is no end of words 0 above its list.
func word(w []uint64, i int) uint64 {
	if i < len(w) {
		return w[i]
	}
	return 0
}

// each puts in every word's place what do makes of it, from the lowest on, as
// carries go.
func each(w []uint64, do func(i int, old uint64) uint64) {
	for i, old := range w {
		w[i] = do(i, old)
	}
}

// addTo adds b to w, which has room for the sum.
func addTo(w, b []uint64) {
	var carry uint64
	each(w, func(i int, old uint64) (sum uint64) {
		sum, carry = bits.Add64(old, word(b, i), carry)
		return sum
	})
}

// takeFrom takes b, which is no more than w, from w.
func takeFrom(w, b []uint64) {
	var borrow uint64
	each(w, func(i int, old uint64) (left uint64) {
		left, borrow = bits.Sub64(old, word(b, i), borrow)
		return left
	})
}

// addMultiple adds x times b to w, which has room for the sum.
func addMultiple(w, b []uint64, x uint64) {
	var carry uint64
	each(w, func(i int, old uint64) uint64 {
		high, low := bits.Mul64(x, word(b, i))
		low, c := bits.Add64(low, old, 0)
		high += c
		low, c = bits.Add64(low, carry, 0)
		// It can't go round: x times a word, and two words more, are less than 2^128.
		carry = high + c
		return low
	})
}

// double makes w twice itself, and bit more; w has room for that.
func double(w []uint64, bit uint64) {
	each(w, func(_ int, old uint64) uint64 {
		twice := old<<1 | bit
		bit = old >> (wordBits - 1)
		return twice
	})
}

// bitsDown goes through the bits of all words, the highest first, with their places.
func bitsDown(w []uint64) iter.Seq2[int, uint64] {
	return func(yield func(int, uint64) bool) {
		for i := wordBits*len(w) - 1; i >= 0; i-- {
			if !yield(i, Bit(w, i)) {
				return
			}
		}
	}
}
