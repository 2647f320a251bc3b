package blake_test

import (
	"slices"
	"strconv"
	"sync"
	"testing"

	"marlinspike/blake"
)

// R1 to R3 for this layer's call. It has no errors and no objects.

// asks are lists of parts that the call is asked of.
func asks() [][][]byte {
	s := numbers{state: 6}
	l := [][][]byte{nil, {}, {nil}, {{}}, {nil, {}, nil}, make([][]byte, 70)}
	for _, n := range counts() {
		b := s.bytes(n)
		l = append(l, [][]byte{b}, [][]byte{nil, b}, [][]byte{b, {}}, cut(b, n/2), pieces(b, 1), pieces(b, 64), cut(b, n/3, n/3, n/2))
	}
	return append(l, [][]byte{s.bytes(70000)}, pieces(s.bytes(5000), 100))
}

// copied are parts in other memory, in a list of other memory.
func copied(parts [][]byte) [][]byte {
	l := make([][]byte, len(parts))
	for i, b := range parts {
		l[i] = slices.Clone(b)
	}
	return l
}

const roomBytes = 80 // more than a block

// roomy is a list of the same parts: it and each of them have room behind their
// ends that nobody may touch, nor read.
func roomy(parts [][]byte, filled byte) [][]byte {
	room := slices.Repeat([]byte{filled}, roomBytes)
	l := make([][]byte, 0, len(parts)+3)
	for _, b := range parts {
		l = append(l, slices.Concat(b, room)[:len(b)])
	}
	return append(l, slices.Clone(room), nil, slices.Clone(room))[:len(parts)]
}

// untouched tells whether a list made by roomy, and all rooms, are as they were.
// Places are those of the parts' first bytes.
func untouched(l [][]byte, parts [][]byte, filled byte, places []*byte) bool {
	room := slices.Repeat([]byte{filled}, roomBytes)
	whole := l[:len(parts)+3]
	behind := whole[len(parts):]
	if !slices.Equal(behind[0], room) || behind[1] != nil || !slices.Equal(behind[2], room) {
		return false
	}
	for i, b := range l {
		if len(b) != len(parts[i]) || &b[:1][0] != places[i] || !slices.Equal(b[:len(b)+roomBytes], slices.Concat(parts[i], room)) {
			return false
		}
	}
	return len(l) == len(parts)
}

// placesOf are the places of the parts' first bytes.
func placesOf(l [][]byte) []*byte {
	var places []*byte
	for _, b := range l {
		places = append(places, &b[:1][0])
	}
	return places
}

// R1
func TestNothingPanics(t *testing.T) {
	for _, parts := range asks() {
		blake.Sum(parts...)
	}
	blake.Sum(make([][]byte, 100000)...)
	blake.Sum(slices.Repeat([][]byte{{1}}, 100000)...)
}

// R2: asked again, in another order, with other calls between, it is the same.
func TestAnswersHangOnArgumentsAlone(t *testing.T) {
	all := asks()
	var before [][32]byte
	for _, parts := range all {
		before = append(before, model(slices.Concat(parts...)))
	}
	for i, parts := range all {
		want(t, "the ask "+strconv.Itoa(i), blake.Sum(parts...), before[i])
		want(t, "again, the ask "+strconv.Itoa(i), blake.Sum(parts...), before[i])
		want(t, "in other memory, the ask "+strconv.Itoa(i), blake.Sum(copied(parts)...), before[i])
	}
	for i, parts := range slices.Backward(all) {
		want(t, "from the last one on, the ask "+strconv.Itoa(i), blake.Sum(parts...), before[i])
	}
	s := numbers{state: 7}
	for range 1000 {
		i := s.below(len(all))
		want(t, "drawn, the ask "+strconv.Itoa(i), blake.Sum(all[i]...), before[i])
	}
}

// R3
func TestArgumentsAreNotChanged(t *testing.T) {
	for i, parts := range asks() {
		sum := model(slices.Concat(parts...))
		for _, filled := range []byte{0, 1, 255} {
			l := roomy(parts, filled)
			places := placesOf(l)
			want(t, "with room behind, the ask "+strconv.Itoa(i), blake.Sum(l...), sum)
			if !untouched(l, parts, filled, places) {
				t.Errorf("the ask %d was changed", i)
			}
		}
	}
}

// R3: what the caller writes into what was handed in shows in no later answer, but
// where it is handed in again.
func TestArgumentsAreNotKept(t *testing.T) {
	for i, parts := range asks() {
		what := "the ask " + strconv.Itoa(i)
		sum := model(slices.Concat(parts...))
		l := roomy(parts, 0)
		got := blake.Sum(l...)
		for _, b := range l {
			for j := range b[:cap(b)] {
				b[:cap(b)][j] ^= 0xa5
			}
		}
		want(t, what+", behind what was written", got, sum)
		want(t, what+", in other memory", blake.Sum(copied(parts)...), sum)
		want(t, what+", as it was written", blake.Sum(l...), model(slices.Concat(l...)))
		clear(l[:cap(l)])
		want(t, what+", in other memory again", blake.Sum(copied(parts)...), sum)
		want(t, what+", of nil parts", blake.Sum(l...), model(nil))
	}
}

// One memory, filled with other bytes each time.
func TestOneMemoryAgainAndAgain(t *testing.T) {
	memory := make([]byte, 300)
	parts := [][]byte{memory[:100], nil, memory[50:200], memory[200:264], memory[264:]}
	s := numbers{state: 8}
	for range 300 {
		copy(memory, s.bytes(len(memory)))
		was := slices.Clone(memory)
		want(t, "one memory", blake.Sum(parts...), model(slices.Concat(parts...)))
		if !slices.Equal(memory, was) {
			t.Fatal("the memory was changed")
		}
	}
}

// What is handed out is the caller's own.
func TestAnswersAreApart(t *testing.T) {
	for i, parts := range asks() {
		first := blake.Sum(parts...)
		second := first
		clear(second[:])
		want(t, "asked again, "+strconv.Itoa(i), blake.Sum(parts...), first)
	}
}

// Many may ask at once, of the same parts.
func TestManyAtOnce(t *testing.T) {
	all := asks()
	var sums [][32]byte
	for _, parts := range all {
		sums = append(sums, model(slices.Concat(parts...)))
	}
	var workers sync.WaitGroup
	for range 8 {
		workers.Go(func() {
			for i, parts := range all {
				want(t, "at once, the ask "+strconv.Itoa(i), blake.Sum(parts...), sums[i])
			}
		})
	}
	workers.Wait()
}
