package curve_test

import (
	"math/big"
	"slices"
	"testing"

	"marlinspike/api"
	"marlinspike/fq"
)

// prime is a type that stands for a prime number.
type prime interface{ number() int }

type (
	five     struct{}
	seven    struct{}
	eleven   struct{}
	thirteen struct{}
	nineteen struct{}
)

func (five) number() int     { return 5 }
func (seven) number() int    { return 7 }
func (eleven) number() int   { return 11 }
func (thirteen) number() int { return 13 }
func (nineteen) number() int { return 19 }

// little is a number by a prime number that is so small that all points of a
// curve can be gone through.
type little[P prime] struct{ n int }

func modulus[P prime]() int {
	var p P
	return p.number()
}

func by[P prime](n int) little[P] {
	m := modulus[P]()
	return little[P]{(n%m + m) % m}
}

func (x little[P]) Add(y little[P]) little[P] { return by[P](x.n + y.n) }
func (x little[P]) Sub(y little[P]) little[P] { return by[P](x.n - y.n) }
func (x little[P]) Neg() little[P]            { return by[P](-x.n) }
func (x little[P]) Mul(y little[P]) little[P] { return by[P](x.n * y.n) }
func (x little[P]) IsZero() bool              { return x.n == 0 }

func (x little[P]) Inv() (little[P], api.Errno) {
	for n := range modulus[P]() {
		if y := by[P](n); x.Mul(y).n == 1 {
			return y, api.OK
		}
	}
	return little[P]{}, api.ErrZero
}

// bigOf is the number of words, by the library's own ones.
func bigOf(w []uint64) *big.Int {
	b := new(big.Int)
	for _, x := range slices.Backward(w) {
		b.Lsh(b, 64).Or(b, new(big.Int).SetUint64(x))
	}
	return b
}

// fromBig are the words of a number, in form.
func fromBig(b *big.Int) []uint64 {
	var w []uint64
	low := new(big.Int).SetUint64(1<<64 - 1)
	for b = new(big.Int).Set(b); b.Sign() > 0; b.Rsh(b, 64) {
		w = append(w, new(big.Int).And(b, low).Uint64())
	}
	return w
}

// coordinate is that of a number below q.
func coordinate(t *testing.T, b *big.Int) fq.El {
	t.Helper()
	var l [48]byte
	b.FillBytes(l[:])
	x, e := fq.From(l)
	if e != api.OK {
		t.Fatalf("From(%x): %v", b, e)
	}
	return x
}

// count is how many points y^2 = x^3 + 1 has over coordinates: q - X, by what
// the document says, q + 1 less X + 1.
func count() *big.Int {
	return new(big.Int).Sub(bigOf(fq.Modulus()), new(big.Int).SetUint64(api.X))
}

// numbers makes numbers for tests by a rule, so that every run has the same ones.
type numbers struct{ state uint64 }

func (s *numbers) word() uint64 {
	s.state += 0x9e3779b97f4a7c15
	z := s.state
	z = (z ^ z>>30) * 0xbf58476d1ce4e5b9
	z = (z ^ z>>27) * 0x94d049bb133111eb
	return z ^ z>>31
}

// below is a count from 0 to n - 1.
func (s *numbers) below(n int) int { return int(s.word() % uint64(n)) }

// list is a number of up to n words, some of which are 0, also at its end, or
// the greatest.
func (s *numbers) list(n int) []uint64 {
	w := make([]uint64, s.below(n+1))
	for i := range w {
		switch s.below(5) {
		case 0:
			w[i] = 0
		case 1:
			w[i] = 1<<64 - 1
		case 2:
			w[i] = s.word() % 8
		default:
			w[i] = s.word()
		}
	}
	return w
}

// exponents are numbers at which multiples may go astray.
func exponents() [][]uint64 {
	return [][]uint64{
		nil, {}, {0}, {0, 0, 0}, {1}, {1, 0, 0}, {2}, {2, 0}, {3}, {4}, {5}, {6}, {7}, {8}, {9}, {255}, {256}, {1 << 63}, {1<<64 - 1},
		{1<<64 - 1, 0}, {0, 1}, {0, 1, 0, 0}, {1, 1}, {1<<64 - 1, 1<<64 - 1}, {0, 0, 1}, {5, 6, 7, 8}, {9, 0, 0, 0, 7, 0, 0},
	}
}
