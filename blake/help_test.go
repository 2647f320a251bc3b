package blake_test

import (
	"encoding/binary"
	"encoding/hex"
	"slices"
	"strconv"
	"strings"
	"testing"

	"marlinspike/blake"
)

// The chapter's words once more, apart from the program: all bytes are laid out
// first, words are natural numbers that are taken by 2^32, and orders are read out
// of a text.

const by = 1 << 32

const textOfWords = "6a09e667, bb67ae85, 3c6ef372, a54ff53a, 510e527f, 9b05688c, 1f83d9ab, 5be0cd19"

const textOfOrders = `
	0 1 2 3 4 5 6 7 8 9 10 11 12 13 14 15
	14 10 4 8 9 15 13 6 1 12 0 2 11 7 5 3
	11 8 12 0 5 2 15 13 10 14 3 6 7 1 9 4
	7 9 3 1 13 12 11 14 2 6 5 10 4 0 15 8
	9 0 5 7 2 4 10 15 14 1 11 12 6 8 3 13
	2 12 6 10 0 11 8 3 4 13 7 5 15 14 1 9
	12 5 1 15 14 13 4 10 0 7 6 3 9 2 8 11
	13 11 7 14 12 1 3 9 5 0 15 4 8 6 2 10
	6 15 14 9 11 3 0 8 12 2 13 7 1 4 10 5
	10 2 8 4 7 6 1 5 15 11 9 14 3 12 13 0`

// numbersOf are those of a text.
func numbersOf(text string, base int) (l []uint64) {
	for word := range strings.FieldsFuncSeq(text, func(r rune) bool { return strings.ContainsRune(", \n\t", r) }) {
		n, e := strconv.ParseUint(word, base, 64)
		if e != nil {
			panic(e) // the text above is wrong
		}
		l = append(l, n)
	}
	return l
}

// turned is a word turned right.
func turned(word uint64, places int) uint64 {
	return (word>>places | word<<(32-places)) % by
}

// mixed mixes four of the words with two.
func mixed(v []uint64, a, b, c, d int, x, y uint64) {
	v[a] = (v[a] + v[b] + x) % by
	v[d] = turned(v[d]^v[a], 16)
	v[c] = (v[c] + v[d]) % by
	v[b] = turned(v[b]^v[c], 12)
	v[a] = (v[a] + v[b] + y) % by
	v[d] = turned(v[d]^v[a], 8)
	v[c] = (v[c] + v[d]) % by
	v[b] = turned(v[b]^v[c], 7)
}

// take takes a block into the state.
func take(state []uint64, block []byte, t uint64, last bool, orders []uint64) {
	var m [16]uint64
	for i := range m {
		m[i] = uint64(binary.LittleEndian.Uint32(block[4*i:]))
	}
	v := append(slices.Clone(state), numbersOf(textOfWords, 16)...)
	v[12] ^= t % by
	v[13] ^= t / by
	if last {
		v[14] = by - 1 - v[14]
	}
	for ; len(orders) > 0; orders = orders[16:] {
		for i := range 4 { // the columns, then the slanting lines
			mixed(v, i, 4+i, 8+i, 12+i, m[orders[2*i]], m[orders[2*i+1]])
		}
		for i := range 4 {
			mixed(v, i, 4+(i+1)%4, 8+(i+2)%4, 12+(i+3)%4, m[orders[8+2*i]], m[orders[9+2*i]])
		}
	}
	for i := range state {
		state[i] ^= v[i] ^ v[i+8]
	}
}

// model is the sum of bytes by the chapter's words.
func model(b []byte) (sum [32]byte) {
	state, orders := numbersOf(textOfWords, 16), numbersOf(textOfOrders, 10)
	state[0] ^= 0x01010020
	blocks := max((len(b)+63)/64, 1)
	filled := make([]byte, 64*blocks)
	copy(filled, b)
	for i := range blocks {
		last := i == blocks-1
		t := 64 * (i + 1)
		if last {
			t = len(b)
		}
		take(state, filled[64*i:64*i+64], uint64(t), last, orders)
	}
	for i, word := range state {
		binary.LittleEndian.PutUint32(sum[4*i:], uint32(word))
	}
	return sum
}

// numbers are as if drawn, and the same at each run.
type numbers struct{ state uint64 }

func (s *numbers) next() uint64 {
	s.state += 0x9e3779b97f4a7c15
	x := s.state
	x = (x ^ x>>30) * 0xbf58476d1ce4e5b9
	x = (x ^ x>>27) * 0x94d049bb133111eb
	return x ^ x>>31
}

// below is one from 0 to n - 1.
func (s *numbers) below(n int) int { return int(s.next() % uint64(n)) }

// bytes are n of them.
func (s *numbers) bytes(n int) []byte {
	b := make([]byte, n)
	for i := range b {
		b[i] = byte(s.next())
	}
	return b
}

// counting are n bytes 0, 1, .., 250, 0, 1, .., so that no two blocks that lie near
// each other are alike.
func counting(n int) []byte {
	b := make([]byte, n)
	for i := range b {
		b[i] = byte(i % 251)
	}
	return b
}

// kinds are lists of n bytes of several kinds.
func kinds(n int) [][]byte {
	s := numbers{state: uint64(n)}
	return [][]byte{counting(n), make([]byte, n), slices.Repeat([]byte{255}, n), slices.Repeat([]byte{128}, n), slices.Repeat([]byte{1}, n), s.bytes(n)}
}

// counts are those at the edges of blocks.
func counts() []int {
	return []int{0, 1, 2, 3, 4, 5, 31, 32, 33, 62, 63, 64, 65, 66, 126, 127, 128, 129, 130, 191, 192, 193, 255, 256, 257, 320, 511, 512, 513, 1023, 1024, 1025}
}

// read is a sum of a text.
func read(t *testing.T, text string) (sum [32]byte) {
	t.Helper()
	b, e := hex.DecodeString(strings.ReplaceAll(text, " ", ""))
	if e != nil || len(b) != len(sum) {
		t.Fatalf("%q is no sum: %v", text, e)
	}
	return [32]byte(b)
}

// want holds what was told against what it must be.
func want(t *testing.T, what string, got, wanted [32]byte) {
	t.Helper()
	if got != wanted {
		t.Errorf("%s: %x, not %x", what, got, wanted)
	}
}

// wantParted holds the sum of parts against that of the same bytes in one part.
func wantParted(t *testing.T, what string, parts ...[]byte) {
	t.Helper()
	all := slices.Concat(parts...)
	want(t, what+", in parts", blake.Sum(parts...), blake.Sum(all))
	want(t, what+", in parts, by the chapter's words", blake.Sum(parts...), model(all))
}
