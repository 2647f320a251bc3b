// Package nat is layer 1, natural numbers as lists of words, the lowest first: see shared/doc/01-nat.md.
package nat

import (
	"cmp"
	"math/bits"

	"marlinspike/api"
)

// maxBytes is how many bytes the longest number has.
const maxBytes = wordBytes * api.MaxWords

// Of is a number in form.
func Of(w ...uint64) []uint64 {
	w = inForm(w)
	own := make([]uint64, len(w))
	copy(own, w)
	return own
}

// Cmp is -1, 0 or 1, as a is less than b, the same or more.
func Cmp(a, b []uint64) int {
	a, b = inForm(a), inForm(b)
	if len(a) != len(b) {
		return cmp.Compare(len(a), len(b))
	}
	for i := len(a) - 1; i >= 0; i-- {
		if a[i] != b[i] {
			return cmp.Compare(a[i], b[i])
		}
	}
	return 0
}

// Add is the sum.
func Add(a, b []uint64) ([]uint64, api.Errno) {
	if tooLong(a, b) {
		return nil, api.ErrLong
	}
	sum := make([]uint64, max(len(a), len(b))+1) // the word more takes the last carry
	copy(sum, a)
	addTo(sum, b)
	return inForm(sum), api.OK
}

// Sub is what is left of a without b.
func Sub(a, b []uint64) ([]uint64, api.Errno) {
	if tooLong(a, b) {
		return nil, api.ErrLong
	}
	if Cmp(a, b) < 0 {
		return nil, api.ErrArg
	}
	left := Of(a...)
	takeFrom(left, b)
	return inForm(left), api.OK
}

// Mul is the product.
func Mul(a, b []uint64) ([]uint64, api.Errno) {
	if tooLong(a, b) {
		return nil, api.ErrLong
	}
	product := make([]uint64, len(a)+len(b))
	for i, x := range a {
		addMultiple(product[i:i+len(b)+1], b, x)
	}
	return inForm(product), api.OK
}

// DivMod is how often b goes into a, and the rest.
func DivMod(a, b []uint64) ([]uint64, []uint64, api.Errno) {
	if tooLong(a, b) {
		return nil, nil, api.ErrLong
	}
	a, b = inForm(a), inForm(b)
	if len(b) == 0 {
		return nil, nil, api.ErrZero
	}
	// The highest words of a, a word fewer than b has, are less than b: they
	// are a rest to begin with, and their bits need not be gone through.
	low := a[:max(len(a)-len(b)+1, 0)]
	rest := make([]uint64, len(b)+1) // the word more takes the rest twice over
	copy(rest, a[len(low):])
	quotient := make([]uint64, len(low))
	for place, bit := range bitsDown(low) {
		double(rest, bit)
		if Cmp(rest, b) >= 0 {
			takeFrom(rest, b)
			quotient[place/wordBits] |= 1 << (place % wordBits)
		}
	}
	return inForm(quotient), inForm(rest), api.OK
}

// Bits is the least count of bits that a number has.
func Bits(a []uint64) int {
	a = inForm(a)
	if len(a) == 0 {
		return 0
	}
	top := len(a) - 1
	return wordBits*top + bits.Len64(a[top])
}

// Bit is the bit of the worth 2^i.
func Bit(a []uint64, i int) uint64 {
	if i < 0 {
		return 0
	}
	return word(a, i/wordBits) >> (i % wordBits) & 1
}

// Bytes are the n bytes of a number, the highest first.
func Bytes(a []uint64, n int) ([]byte, api.Errno) {
	if tooLong(a) || n > maxBytes {
		return nil, api.ErrLong
	}
	if n < 0 || Bits(a) > 8*n {
		return nil, api.ErrArg
	}
	b := make([]byte, n)
	for i := range b {
		place := n - 1 - i
		b[i] = byte(word(a, place/wordBytes) >> (8 * (place % wordBytes)))
	}
	return b, api.OK
}

// FromBytes is the number of bytes, the highest first.
func FromBytes(b []byte) ([]uint64, api.Errno) {
	if len(b) > maxBytes {
		return nil, api.ErrLong
	}
	number := make([]uint64, (len(b)+wordBytes-1)/wordBytes)
	for i, x := range b {
		place := len(b) - 1 - i
		number[place/wordBytes] |= uint64(x) << (8 * (place % wordBytes))
	}
	return inForm(number), api.OK
}
