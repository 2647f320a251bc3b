package blake_test

import (
	"slices"
	"strconv"
	"testing"

	"marlinspike/blake"
)

// P15.2: how bytes are parted plays no part.

// cut are the bytes in parts, that end at these places and at the end.
func cut(b []byte, places ...int) [][]byte {
	var parts [][]byte
	from := 0
	for _, to := range places {
		parts = append(parts, slices.Clone(b[from:to]))
		from = to
	}
	return append(parts, slices.Clone(b[from:]))
}

// pieces are the bytes in parts of that length, but for the last one.
func pieces(b []byte, length int) [][]byte { return slices.Collect(slices.Chunk(b, length)) }

// edges are places at and about the ends of blocks, up to n.
func edges(n int) []int {
	var l []int
	for _, place := range []int{0, 1, 63, 64, 65, 127, 128, 129, 191, 192, 193, 255, 256, 257} {
		if place <= n {
			l = append(l, place)
		}
	}
	return append(l, n)
}

func TestTwoParts(t *testing.T) {
	s := numbers{state: 2}
	for n := range 201 {
		b := s.bytes(n)
		sum := model(b)
		want(t, strconv.Itoa(n)+" bytes in one part", blake.Sum(b), sum)
		for at := range n + 1 {
			want(t, strconv.Itoa(n)+" bytes cut at "+strconv.Itoa(at), blake.Sum(cut(b, at)...), sum)
		}
	}
}

func TestThreeParts(t *testing.T) {
	for _, n := range append(counts(), 200, 4096) {
		b := counting(n)
		sum := model(b)
		for _, i := range edges(n) {
			for _, j := range edges(n) {
				if i <= j {
					what := strconv.Itoa(n) + " bytes cut at " + strconv.Itoa(i) + " and " + strconv.Itoa(j)
					want(t, what, blake.Sum(cut(b, i, j)...), sum)
				}
			}
		}
	}
}

// Parts of one byte, and of any other length.
func TestPartsOfOneLength(t *testing.T) {
	for _, n := range counts() {
		for _, b := range kinds(n) {
			sum := model(b)
			for _, length := range []int{1, 2, 3, 7, 31, 32, 33, 63, 64, 65, 127, 128, 129, 200, 1024} {
				want(t, strconv.Itoa(n)+" bytes, "+strconv.Itoa(length)+" a part", blake.Sum(pieces(b, length)...), sum)
			}
		}
	}
}

// Nil and empty parts are nothing, wherever they stand.
func TestPartsWithoutBytes(t *testing.T) {
	for _, n := range counts() {
		for _, b := range kinds(n) {
			sum := model(b)
			empty := []byte{}
			for i, none := range [][]byte{nil, empty, make([]byte, 0, 64), counting(70)[:0], counting(70)[70:]} {
				what := strconv.Itoa(n) + " bytes, the part without any " + strconv.Itoa(i)
				want(t, what+" in front", blake.Sum(none, b), sum)
				want(t, what+" at the end", blake.Sum(b, none), sum)
				want(t, what+" about it", blake.Sum(none, none, b, none, none, none), sum)
				for _, at := range edges(n) {
					parts := cut(b, at)
					want(t, what+" at "+strconv.Itoa(at), blake.Sum(none, parts[0], none, parts[1], none), sum)
					want(t, what+" twice at "+strconv.Itoa(at), blake.Sum(parts[0], none, empty, nil, parts[1]), sum)
				}
			}
		}
	}
}

// Empty parts before, between and behind parts of one byte.
func TestPartsOfOneByteAndOfNone(t *testing.T) {
	for _, n := range counts() {
		b := counting(n)
		var parts [][]byte
		for i := range b {
			parts = append(parts, nil, []byte{b[i]}, []byte{})
		}
		want(t, strconv.Itoa(n)+" bytes one by one", blake.Sum(parts...), model(b))
	}
}

func TestGreatParts(t *testing.T) {
	s := numbers{state: 3}
	b := s.bytes(300000)
	sum := model(b)
	want(t, "one part", blake.Sum(b), sum)
	for _, places := range [][]int{{0}, {1}, {63}, {64}, {65}, {1000, 1000, 1064}, {65535}, {65536}, {65537}, {100, 200000}, {3, 131072, 131073, 262144}, {299935, 299936}, {299999}, {300000}} {
		want(t, "cut at "+strconv.Itoa(places[0]), blake.Sum(cut(b, places...)...), sum)
	}
	for _, length := range []int{1, 63, 64, 65, 100, 4096, 99999, 131072} {
		want(t, strconv.Itoa(length)+" a part", blake.Sum(pieces(b, length)...), sum)
	}
}

func TestDrawnParts(t *testing.T) {
	s := numbers{state: 4}
	for range 2000 {
		var parts [][]byte
		for range s.below(12) {
			switch s.below(4) {
			case 0:
				parts = append(parts, nil)
			case 1:
				parts = append(parts, s.bytes(s.below(4)))
			case 2:
				parts = append(parts, s.bytes(60+s.below(9)))
			default:
				parts = append(parts, s.bytes(s.below(300)))
			}
		}
		wantParted(t, strconv.Itoa(len(parts))+" parts", parts...)
	}
}

// Parts may lie in one memory: one behind the other, one over the other, or in
// another order than they are handed in.
func TestPartsInOneMemory(t *testing.T) {
	memory := counting(1000)
	wantParted(t, "one behind the other", memory[:10], memory[10:100], memory[100:164], memory[164:900])
	wantParted(t, "the later one first", memory[500:600], memory[:500], memory[600:])
	wantParted(t, "one over the other", memory[:100], memory[50:150], memory[100:101], memory[30:700])
	wantParted(t, "one within the other", memory, memory[64:128], memory[63:65])
	wantParted(t, "the same twice", memory[3:70], memory[3:70])
	wantParted(t, "the same three times", memory, memory, memory)
	wantParted(t, "the same start", memory[:1], memory[:64], memory[:65], memory[:128])
	wantParted(t, "the same end", memory[999:], memory[936:], memory[935:], memory[872:])
	wantParted(t, "empty ones between", memory[:64], memory[64:64], memory[64:128], memory[1000:], memory[128:])
	wantParted(t, "cut off behind", memory[:64:64], memory[64:128:128], memory[128:192:192])
	s := numbers{state: 5}
	for range 1000 {
		var parts [][]byte
		for range s.below(8) {
			from := s.below(len(memory) + 1)
			parts = append(parts, memory[from:from+s.below(len(memory)-from+1)])
		}
		wantParted(t, "drawn ones", parts...)
	}
	if !slices.Equal(memory, counting(1000)) {
		t.Error("the memory was changed")
	}
}

// Which bytes there are, and in which order, does play a part.
func TestOrderOfParts(t *testing.T) {
	a, b := []byte("abc"), counting(64)
	if blake.Sum(a, b) == blake.Sum(b, a) {
		t.Error("the order of parts plays no part")
	}
	if blake.Sum(a, a) == blake.Sum(a) || blake.Sum(b, b) == blake.Sum(b) || blake.Sum(a, make([]byte, 1)) == blake.Sum(a) {
		t.Error("a part more plays no part")
	}
	want(t, "abc in three parts", blake.Sum([]byte("a"), []byte("b"), []byte("c")), read(t, published()[1].sum))
	want(t, "abc with an empty part", blake.Sum([]byte("ab"), nil, []byte("c")), read(t, published()[1].sum))
}
