package script_test

import (
	"runtime"
	"slices"
	"strconv"
	"strings"
	"sync"
	"testing"

	"marlinspike/api"
	"marlinspike/fr"
	"marlinspike/script"
)

// R1 to R8 for this layer's calls.

// asks are lists of parts that are absorbed.
func asks() [][][]byte {
	s := numbers{state: 4}
	l := [][][]byte{nil, {}, {nil}, {{}}, {nil, {}, nil}, make([][]byte, 70)}
	for _, n := range counts() {
		b := s.bytes(n)
		l = append(l, [][]byte{b}, [][]byte{nil, b}, [][]byte{b, {}}, cut(b, n/2), parted(b, 1), parted(b, 64), cut(b, n/3, n/3, n/2))
	}
	return append(l, [][]byte{s.bytes(70000)}, parted(s.bytes(5000), 100))
}

// refused are those that are not.
func refused() [][][]byte {
	b := counting(api.MaxText + 1)
	return [][][]byte{{b}, {nil, b, {}}, cut(b, 1), cut(b, api.MaxText), parted(b, 1000)}
}

// R1: a script that no call told, too.
func TestNothingPanics(t *testing.T) {
	for _, label := range append(labels(), strings.Repeat("x", api.MaxText+1)) {
		script.New(label)
	}
	var none *script.Script
	for _, s := range []*script.Script{none, {}, new(script.Script), of(t, ""), of(t, "x")} {
		for _, parts := range append(append(asks(), refused()...), make([][]byte, 100000), slices.Repeat([][]byte{{1}}, 100000)) {
			s.Absorb(parts...)
		}
		for _, n := range append(badSizes(), sizes()...) {
			s.Outside(n)
		}
		s.Draw()
		s.Clone().Draw()
	}
}

// walk is what is drawn of a new script, behind each of some calls.
func walk(t *testing.T, label string) []fr.El {
	t.Helper()
	s := of(t, label)
	l := []fr.El{draw(t, s)}
	for i, parts := range asks() {
		absorb(t, s, parts...)
		l = append(l, draw(t, s))
		if i%5 == 0 {
			l = append(l, outside(t, s, i+1))
		}
	}
	return l
}

// R2: what is said to other scripts plays no part, between and at once.
func TestScriptsAreApart(t *testing.T) {
	names := []string{"", "x", "y", "another one", "x"}
	var scripts []*script.Script
	var models []*model
	for _, label := range names {
		scripts, models = append(scripts, of(t, label)), append(models, begun(label))
	}
	s := numbers{state: 5}
	for range 3000 {
		i := s.below(len(scripts))
		what := "the script " + strconv.Itoa(i)
		switch s.below(4) {
		case 0:
			b := s.bytes(s.below(100))
			absorb(t, scripts[i], b)
			models[i].absorb(b)
		case 1:
			n := 1 + s.below(api.MaxDomain)
			want(t, what, outside(t, scripts[i], n), models[i].outside(n))
		default:
			wantDraws(t, what, scripts[i], models[i], 1)
		}
		script.New(what) // and one that nobody asks
	}
	for i := range scripts {
		wantDraws(t, "at the end, the script "+strconv.Itoa(i), scripts[i], models[i], 2)
	}
}

func TestAnswersHangOnWhatWasSaidAlone(t *testing.T) {
	before := walk(t, "walk")
	walk(t, "another one")
	for range 3 {
		if !slices.Equal(walk(t, "walk"), before) {
			t.Error("asked again, it is another one")
		}
	}
}

func TestManyAtOnce(t *testing.T) {
	wanted := walk(t, "at once")
	one := of(t, "one for all")
	next := draw(t, one.Clone())
	var workers sync.WaitGroup
	for i := range 8 {
		workers.Go(func() {
			walk(t, strconv.Itoa(i))
			if !slices.Equal(walk(t, "at once"), wanted) {
				t.Error("at once, it is another one")
			}
			for range 50 { // what is only asked may be asked by many
				if draw(t, one.Clone()) != next {
					t.Error("at once, a clone draws another one")
				}
			}
		})
	}
	workers.Wait()
}

const roomBytes = 80 // more than a block

// roomy is a list of the same parts: it and each of them have room behind their
// ends that nobody may touch, nor read.
func roomy(parts [][]byte, filled byte) [][]byte {
	room := slices.Repeat([]byte{filled}, roomBytes)
	l := make([][]byte, 0, len(parts)+3)
	for _, b := range parts {
		l = append(l, slices.Concat(b, room)[:len(b)])
	}
	return append(l, slices.Clone(room), nil, slices.Clone(room))[:len(parts)]
}

// untouched tells whether a list made by roomy, and all rooms, are as they were.
// Places are those of the parts' first bytes.
func untouched(l [][]byte, parts [][]byte, filled byte, places []*byte) bool {
	room := slices.Repeat([]byte{filled}, roomBytes)
	behind := l[:len(parts)+3][len(parts):]
	if !slices.Equal(behind[0], room) || behind[1] != nil || !slices.Equal(behind[2], room) {
		return false
	}
	for i, b := range l {
		if len(b) != len(parts[i]) || &b[:1][0] != places[i] || !slices.Equal(b[:len(b)+roomBytes], slices.Concat(parts[i], room)) {
			return false
		}
	}
	return len(l) == len(parts)
}

// placesOf are the places of the parts' first bytes.
func placesOf(l [][]byte) []*byte {
	var places []*byte
	for _, b := range l {
		places = append(places, &b[:1][0])
	}
	return places
}

// R3
func TestArgumentsAreNotChanged(t *testing.T) {
	s, m := of(t, "room"), begun("room")
	for i, parts := range append(asks(), refused()...) {
		for _, filled := range []byte{0, 1, 255} {
			l := roomy(parts, filled)
			places := placesOf(l)
			all := slices.Concat(parts...)
			if e := s.Absorb(l...); e == api.OK {
				m.absorb(all)
			} else if len(all) <= api.MaxText {
				t.Errorf("the list %d: %v", i, e)
			}
			wantDraws(t, "with room behind, the list "+strconv.Itoa(i), s, m, 1)
			if !untouched(l, parts, filled, places) {
				t.Errorf("the list %d was changed", i)
			}
		}
	}
}

// R3: what the caller writes into what was handed in shows in no later answer.
func TestArgumentsAreNotKept(t *testing.T) {
	for i, parts := range append(asks(), refused()...) {
		s, m := of(t, "kept"), begun("kept")
		l := roomy(parts, 0)
		all := slices.Concat(parts...)
		if s.Absorb(l...) == api.OK {
			m.absorb(all)
		}
		for _, b := range l {
			for j := range b[:cap(b)] {
				b[:cap(b)][j] ^= 0xa5
			}
		}
		wantDraws(t, "behind what was written, the list "+strconv.Itoa(i), s, m, 2)
		clear(l[:cap(l)])
		wantDraws(t, "behind nil parts, the list "+strconv.Itoa(i), s, m, 2)
	}
}

// One memory, filled with other bytes each time.
func TestOneMemoryAgainAndAgain(t *testing.T) {
	memory := make([]byte, 300)
	parts := [][]byte{memory[:100], nil, memory[50:200], memory[200:264], memory[264:]}
	drawn := numbers{state: 6}
	s, m := of(t, "memory"), begun("memory")
	for range 100 {
		copy(memory, drawn.bytes(len(memory)))
		was := slices.Clone(memory)
		absorb(t, s, parts...)
		m.absorb(slices.Concat(parts...))
		if !slices.Equal(memory, was) {
			t.Fatal("the memory was changed")
		}
		wantDraws(t, "one memory", s, m, 1)
	}
}

// What is handed out is the caller's own.
func TestAnswersAreApart(t *testing.T) {
	s, m := of(t, "own"), begun("own")
	for range 20 {
		x := draw(t, s)
		b := x.Scalar()
		clear(b[:])
		want(t, "a challenge", x, m.draw())
		c := s.Clone()
		absorb(t, c, []byte("other"))
		*c = script.Script{}
		wantNext(t, "behind a clone that was spoilt", s, m)
	}
	a, b := of(t, "same"), of(t, "same")
	draw(t, a)
	wantDraws(t, "another one of the same label", b, begun("same"), 2)
}

// R8: what is refused takes no room, however much there was of it.
func TestRefusedLeavesNoRoom(t *testing.T) {
	s, m := of(t, "room"), begun("room")
	long := refused()
	label := strings.Repeat("x", api.MaxText+1)
	var before, after runtime.MemStats
	runtime.ReadMemStats(&before)
	for range 1000 {
		for _, parts := range long {
			s.Absorb(parts...)
		}
		s.Outside(0)
		script.New(label)
	}
	runtime.ReadMemStats(&after)
	if more := after.TotalAlloc - before.TotalAlloc; more > 1<<20 {
		t.Errorf("refused calls took %d bytes", more)
	}
	wantDraws(t, "behind refused calls", s, m, 2)
}
