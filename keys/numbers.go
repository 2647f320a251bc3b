package keys

import (
	"math"

	"marlinspike/api"
	"marlinspike/decide"
	"marlinspike/domain"
)

// sized tells whether there are domains of all sizes, and they go with each other.
func sized(z decide.Sizes) bool {
	for _, n := range [3]int{z.N, z.X, z.M} {
		if _, e := domain.New(n); e != api.OK {
			return false
		}
	}
	return z.N >= 2*z.X && z.M >= 2
}

// times is n so often, or else, where no int is that great or that small, the greatest or
// the least one.
func times(often, n int) int {
	switch {
	case n > math.MaxInt/often:
		return math.MaxInt
	case n < math.MinInt/often:
		return math.MinInt
	}
	return often * n
}

// lay are numbers, each of them in so many bytes, the highest first.
func lay(width int, numbers ...int) []byte {
	b := make([]byte, width*len(numbers))
	for i, n := range numbers {
		for j := range width {
			b[width*(i+1)-1-j] = byte(n >> (8 * j))
		}
	}
	return b
}

// read puts the numbers that bytes begin with where they belong, and tells the bytes
// behind them.
func read(b []byte, width int, numbers ...*int) (rest []byte) {
	for _, at := range numbers {
		*at = 0
		for _, x := range b[:width] {
			*at = *at<<8 | int(x)
		}
		b = b[width:]
	}
	return b
}
