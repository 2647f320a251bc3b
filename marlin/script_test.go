package marlin_test

import (
	"encoding/binary"
	"math/big"
	"math/bits"
	"slices"
	"strings"
)

// The script once more, by chapters 15 and 16: sums are of bytes that are all laid out
// first.

const textOfOrders = `
	0 1 2 3 4 5 6 7 8 9 a b c d e f
	e a 4 8 9 f d 6 1 c 0 2 b 7 5 3
	b 8 c 0 5 2 f d a e 3 6 7 1 9 4
	7 9 3 1 d c b e 2 6 5 a 4 0 f 8
	9 0 5 7 2 4 a f e 1 b c 6 8 3 d
	2 c 6 a 0 b 8 3 4 d 7 5 f e 1 9
	c 5 1 f e d 4 a 0 7 6 3 9 2 8 b
	d b 7 e c 1 3 9 5 0 f 4 8 6 2 a
	6 f e 9 b 3 0 8 c 2 d 7 1 4 a 5
	a 2 8 4 7 6 1 5 f b 9 e 3 c d 0`

// orders are those of the text, one behind the other.
var orders = func() (l []int) {
	for _, word := range strings.Fields(textOfOrders) {
		l = append(l, strings.Index("0123456789abcdef", word))
	}
	return l
}()

var eight = []uint32{0x6a09e667, 0xbb67ae85, 0x3c6ef372, 0xa54ff53a, 0x510e527f, 0x9b05688c, 0x1f83d9ab, 0x5be0cd19}

// mixed mixes four of the words with two.
func mixed(v []uint32, a, b, c, d int, x, y uint32) {
	for i, more := range []uint32{x, y} {
		v[a] += v[b] + more
		v[d] = bits.RotateLeft32(v[d]^v[a], []int{-16, -8}[i])
		v[c] += v[d]
		v[b] = bits.RotateLeft32(v[b]^v[c], []int{-12, -7}[i])
	}
}

// take takes a block into the state.
func take(state []uint32, block []byte, t uint64, last bool) {
	v := slices.Concat(state, eight)
	v[12] ^= uint32(t)
	v[13] ^= uint32(t >> 32)
	if last {
		v[14] ^= 0xffffffff
	}
	word := func(i int) uint32 { return binary.LittleEndian.Uint32(block[4*i:]) }
	for s := range slices.Chunk(orders, 16) {
		for i := range 4 { // the columns, then the slanting lines
			mixed(v, i, 4+i, 8+i, 12+i, word(s[2*i]), word(s[2*i+1]))
		}
		for i := range 4 {
			mixed(v, i, 4+(i+1)%4, 8+(i+2)%4, 12+(i+3)%4, word(s[8+2*i]), word(s[9+2*i]))
		}
	}
	for i := range state {
		state[i] ^= v[i] ^ v[i+8]
	}
}

// blakeSum is that of bytes.
func blakeSum(parts ...[]byte) (b []byte) {
	all := slices.Concat(parts...)
	blocks := max((len(all)+63)/64, 1)
	filled := slices.Concat(all, make([]byte, 64*blocks-len(all)))
	state := slices.Clone(eight)
	state[0] ^= 0x01010020
	for i := range blocks {
		take(state, filled[64*i:64*i+64], uint64(min(64*i+64, len(all))), i == blocks-1)
	}
	for _, word := range state {
		b = binary.LittleEndian.AppendUint32(b, word)
	}
	return b
}

// counted is a whole number as 8 bytes.
func counted(n int) []byte { return whole(int64(n)).FillBytes(make([]byte, 8)) }

// script is one by the chapter's words.
type script struct{ state []byte }

func begun(label string) *script { return &script{blakeSum([]byte{0}, []byte(label))} }

func (s *script) absorb(b []byte) {
	s.state = blakeSum(s.state, []byte{1}, counted(len(b)), b)
}

func (s *script) draw() *big.Int {
	for i := 0; ; i++ {
		b := blakeSum(s.state, []byte{2}, counted(i))
		b[0] %= 32
		if n := new(big.Int).SetBytes(b); n.Cmp(r) < 0 {
			s.state = blakeSum(s.state, []byte{3}, b)
			return n
		}
	}
}

func (s *script) outside(n int) *big.Int {
	for {
		if x := s.draw(); v(n, x).Sign() != 0 {
			return x
		}
	}
}

// speech is the script of a proof, and what was drawn from it so far. Each step absorbs the
// parts of the proof that come next.
type speech struct {
	*script
	n             int
	a, b, g, y, x *big.Int
	e             [3]*big.Int
}

func speechOf(k keyTale, in []*big.Int) *speech {
	s := &speech{script: begun("marlinspike"), n: k.n}
	s.absorb(k.text())
	s.absorb(textOfScalars(in...))
	return s
}

func (s *speech) first(p tale) {
	s.absorb(textOfPoints(p.c[:4]...))
	s.a = s.outside(s.n)
	s.e = [3]*big.Int{s.draw(), s.draw(), s.draw()}
}

func (s *speech) second(p tale) {
	s.absorb(textOfPoints(p.c[4:8]...))
	s.b = s.outside(s.n)
}

func (s *speech) third(p tale) {
	s.absorb(textOfPoints(p.c[8:11]...))
	s.g = s.draw()
}

func (s *speech) values(p tale) {
	s.absorb(textOfScalars(p.s[:18]...))
	s.y = s.draw()
}

func (s *speech) last(p tale) {
	s.absorb(slices.Concat(textOfScalars(p.s[18]), textOfPoints(p.c[11:]...)))
	s.x = s.draw()
}

// spoken is what the script tells of a whole proof.
func spoken(k keyTale, in []*big.Int, p tale) *speech {
	s := speechOf(k, in)
	s.first(p)
	s.second(p)
	s.third(p)
	s.values(p)
	s.last(p)
	return s
}
