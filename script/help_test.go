package script_test

import (
	"encoding/binary"
	"encoding/hex"
	"math/big"
	"math/bits"
	"slices"
	"strings"
	"testing"

	"marlinspike/api"
	"marlinspike/fr"
	"marlinspike/script"
)

// The chapter's words once more, apart from the program: sums are layer 15's by that
// chapter's words, of bytes that are all laid out first, and numbers are the library's
// big ones.

const textOfOrders = `
	0 1 2 3 4 5 6 7 8 9 a b c d e f
	e a 4 8 9 f d 6 1 c 0 2 b 7 5 3
	b 8 c 0 5 2 f d a e 3 6 7 1 9 4
	7 9 3 1 d c b e 2 6 5 a 4 0 f 8
	9 0 5 7 2 4 a f e 1 b c 6 8 3 d
	2 c 6 a 0 b 8 3 4 d 7 5 f e 1 9
	c 5 1 f e d 4 a 0 7 6 3 9 2 8 b
	d b 7 e c 1 3 9 5 0 f 4 8 6 2 a
	6 f e 9 b 3 0 8 c 2 d 7 1 4 a 5
	a 2 8 4 7 6 1 5 f b 9 e 3 c d 0`

// orders are those of the text, one behind the other.
var orders = func() (l []int) {
	for _, word := range strings.Fields(textOfOrders) {
		l = append(l, strings.Index("0123456789abcdef", word))
	}
	return l
}()

var eight = []uint32{0x6a09e667, 0xbb67ae85, 0x3c6ef372, 0xa54ff53a, 0x510e527f, 0x9b05688c, 0x1f83d9ab, 0x5be0cd19}

// mixed mixes four of the words with two.
func mixed(v []uint32, a, b, c, d int, x, y uint32) {
	for i, more := range []uint32{x, y} {
		v[a] += v[b] + more
		v[d] = bits.RotateLeft32(v[d]^v[a], []int{-16, -8}[i])
		v[c] += v[d]
		v[b] = bits.RotateLeft32(v[b]^v[c], []int{-12, -7}[i])
	}
}

// take takes a block into the state.
func take(state []uint32, block []byte, t uint64, last bool) {
	v := slices.Concat(state, eight)
	v[12] ^= uint32(t)
	v[13] ^= uint32(t >> 32)
	if last {
		v[14] ^= 0xffffffff
	}
	word := func(i int) uint32 { return binary.LittleEndian.Uint32(block[4*i:]) }
	for s := range slices.Chunk(orders, 16) {
		for i := range 4 { // the columns, then the slanting lines
			mixed(v, i, 4+i, 8+i, 12+i, word(s[2*i]), word(s[2*i+1]))
		}
		for i := range 4 {
			mixed(v, i, 4+(i+1)%4, 8+(i+2)%4, 12+(i+3)%4, word(s[8+2*i]), word(s[9+2*i]))
		}
	}
	for i := range state {
		state[i] ^= v[i] ^ v[i+8]
	}
}

// sum is that of bytes.
func sum(parts ...[]byte) (b []byte) {
	all := slices.Concat(parts...)
	blocks := max((len(all)+63)/64, 1)
	filled := slices.Concat(all, make([]byte, 64*blocks-len(all)))
	state := slices.Clone(eight)
	state[0] ^= 0x01010020
	for i := range blocks {
		take(state, filled[64*i:64*i+64], uint64(min(64*i+64, len(all))), i == blocks-1)
	}
	for _, word := range state {
		b = binary.LittleEndian.AppendUint32(b, word)
	}
	return b
}

// counted is a whole number as 8 bytes.
func counted(n int) []byte { return big.NewInt(int64(n)).FillBytes(make([]byte, 8)) }

// r is X^4 - X^2 + 1.
func r() *big.Int {
	square := new(big.Int).SetUint64(api.X)
	square.Mul(square, square)
	n := new(big.Int).Mul(square, square)
	return n.Sub(n, square).Add(n, big.NewInt(1))
}

// model is a script by the chapter's words. It also tells of the last challenge how
// many were tried, and the three bits that were dropped of each of these.
type model struct {
	state   []byte
	tries   int
	dropped []byte
}

func begun(label string) *model { return &model{state: sum([]byte{0}, []byte(label))} }

func (m *model) absorb(b []byte) { m.state = sum(m.state, []byte{1}, counted(len(b)), b) }

func (m *model) draw() *big.Int {
	m.tries, m.dropped = 0, nil
	for {
		b := sum(m.state, []byte{2}, counted(m.tries))
		m.tries++
		m.dropped = append(m.dropped, b[0]>>5)
		b[0] %= 32
		if n := new(big.Int).SetBytes(b); n.Cmp(r()) < 0 {
			m.state = sum(m.state, []byte{3}, b)
			return n
		}
	}
}

func (m *model) outside(n int) *big.Int {
	for {
		x := m.draw()
		if new(big.Int).Exp(x, big.NewInt(int64(n)), r()).Cmp(big.NewInt(1)) != 0 {
			return x
		}
	}
}

func (m *model) clone() *model { return &model{state: slices.Clone(m.state)} }

// of is a script of a label.
func of(t *testing.T, label string) *script.Script {
	t.Helper()
	s, e := script.New(label)
	if e != api.OK || s == nil {
		t.Fatalf("New of %d bytes: %v, %v", len(label), s, e)
	}
	return s
}

// absorb says parts, which must be taken.
func absorb(t *testing.T, s *script.Script, parts ...[]byte) {
	t.Helper()
	if e := s.Absorb(parts...); e != api.OK {
		t.Errorf("Absorb of %d parts, %d bytes: %v", len(parts), len(slices.Concat(parts...)), e)
	}
}

// draw is the next challenge.
func draw(t *testing.T, s *script.Script) fr.El {
	t.Helper()
	x, e := s.Draw()
	if e != api.OK {
		t.Errorf("Draw: %v", e)
	}
	return x
}

// outside is the next challenge whose n-th power is not 1.
func outside(t *testing.T, s *script.Script, n int) fr.El {
	t.Helper()
	x, e := s.Outside(n)
	if e != api.OK {
		t.Errorf("Outside(%d): %v", n, e)
	}
	return x
}

// want holds a challenge against the number that it must be.
func want(t *testing.T, what string, x fr.El, wanted *big.Int) {
	t.Helper()
	s := x.Scalar()
	if new(big.Int).SetBytes(s[:]).Cmp(wanted) != 0 {
		t.Errorf("%s: %x, not %x", what, s, wanted)
	}
}

// wantDraws holds the next challenges against the model's.
func wantDraws(t *testing.T, what string, s *script.Script, m *model, n int) {
	t.Helper()
	for range n {
		want(t, what, draw(t, s), m.draw())
	}
}

// wantNext holds the next challenges against the model's, and lets both stay where
// they are.
func wantNext(t *testing.T, what string, s *script.Script, m *model) {
	t.Helper()
	wantDraws(t, what, s.Clone(), m.clone(), 2)
}

// read is a number of a text.
func read(t *testing.T, text string) *big.Int {
	t.Helper()
	b, e := hex.DecodeString(strings.ReplaceAll(text, " ", ""))
	if e != nil || len(b) != 32 {
		t.Fatalf("%q is no scalar: %v", text, e)
	}
	return new(big.Int).SetBytes(b)
}

// numbers are as if drawn, and the same at each run.
type numbers struct{ state uint64 }

func (s *numbers) next() uint64 {
	s.state += 0x9e3779b97f4a7c15
	x := s.state
	x = (x ^ x>>30) * 0xbf58476d1ce4e5b9
	x = (x ^ x>>27) * 0x94d049bb133111eb
	return x ^ x>>31
}

// below is one from 0 to n - 1.
func (s *numbers) below(n int) int { return int(s.next() % uint64(n)) }

// bytes are n of them.
func (s *numbers) bytes(n int) []byte {
	b := make([]byte, n)
	for i := range b {
		b[i] = byte(s.next())
	}
	return b
}

// counting are n bytes 0, 1, .., 250, 0, 1, ..
func counting(n int) []byte {
	b := make([]byte, n)
	for i := range b {
		b[i] = byte(i % 251)
	}
	return b
}

// kinds are lists of n bytes of several kinds.
func kinds(n int) [][]byte {
	s := numbers{state: uint64(n)}
	return [][]byte{counting(n), make([]byte, n), slices.Repeat([]byte{255}, n), slices.Repeat([]byte{1}, n), s.bytes(n)}
}

// counts are those at the edges of blocks and of a count's bytes, with what stands in
// front of the bytes and without.
func counts() []int {
	return []int{0, 1, 2, 3, 22, 23, 24, 31, 32, 33, 62, 63, 64, 65, 86, 87, 88, 127, 128, 129, 254, 255, 256, 257, 511, 512, 513, 1000}
}
