package script_test

import (
	"slices"
	"strconv"
	"testing"

	"marlinspike/api"
	"marlinspike/fr"
	"marlinspike/script"
)

// P16.3: the same said, the same drawn; how an absorption is parted plays no part.

// cut are the bytes in parts, that end at these places and at the end.
func cut(b []byte, places ...int) [][]byte {
	var parts [][]byte
	from := 0
	for _, to := range places {
		parts = append(parts, slices.Clone(b[from:to]))
		from = to
	}
	return append(parts, slices.Clone(b[from:]))
}

// wantParted holds what is drawn behind parts against what is drawn behind the same
// bytes in one part, and against the model.
func wantParted(t *testing.T, what string, parts ...[]byte) {
	t.Helper()
	all := slices.Concat(parts...)
	s, one, m := of(t, "parted"), of(t, "parted"), begun("parted")
	absorb(t, s, parts...)
	absorb(t, one, all)
	m.absorb(all)
	got := draw(t, s)
	if got != draw(t, one) {
		t.Errorf("%s: another one than of the same bytes in one part", what)
	}
	want(t, what, got, m.draw())
	if draw(t, s) != draw(t, one) {
		t.Errorf("%s: another second one than of the same bytes in one part", what)
	}
}

func TestEveryCut(t *testing.T) {
	s := numbers{state: 1}
	for _, n := range []int{0, 1, 2, 3, 5, 22, 23, 24, 40, 63, 64, 65, 87, 88, 130} {
		for _, b := range [][]byte{s.bytes(n), make([]byte, n)} {
			for at := range n + 1 {
				wantParted(t, strconv.Itoa(n)+" bytes cut at "+strconv.Itoa(at), cut(b, at)...)
			}
		}
	}
}

func TestEveryTwoCuts(t *testing.T) {
	b := counting(40)
	for i := range len(b) + 1 {
		for j := i; j <= len(b); j++ {
			wantParted(t, "cut at "+strconv.Itoa(i)+" and "+strconv.Itoa(j), cut(b, i, j)...)
		}
	}
}

func TestPartsOfOneLength(t *testing.T) {
	for _, n := range append(counts(), 5000) {
		for _, length := range []int{1, 2, 3, 7, 23, 31, 32, 63, 64, 65, 128, 1000} {
			wantParted(t, strconv.Itoa(n)+" bytes, "+strconv.Itoa(length)+" a part", parted(counting(n), length)...)
		}
	}
}

// Nil and empty parts are nothing, wherever they stand.
func TestPartsWithoutBytes(t *testing.T) {
	for _, n := range counts() {
		b := counting(n)
		for i, none := range [][]byte{nil, {}, make([]byte, 0, 64), counting(70)[:0], counting(70)[70:]} {
			what := strconv.Itoa(n) + " bytes, the part without any " + strconv.Itoa(i)
			wantParted(t, what+" in front", none, b)
			wantParted(t, what+" behind", b, none)
			wantParted(t, what+" about", none, none, b, nil, none)
			wantParted(t, what+" between", b[:n/2], none, b[n/2:])
		}
	}
}

// Parts may lie in one memory, one over the other too.
func TestPartsInOneMemory(t *testing.T) {
	memory := counting(500)
	wantParted(t, "one behind the other", memory[:10], memory[10:100], memory[100:])
	wantParted(t, "the later one first", memory[300:400], memory[:300], memory[400:])
	wantParted(t, "one over the other", memory[:100], memory[50:150], memory[30:200])
	wantParted(t, "the same three times", memory, memory, memory)
	wantParted(t, "one within the other", memory, memory[64:128], memory[63:65])
	if !slices.Equal(memory, counting(500)) {
		t.Error("the memory was changed")
	}
}

func TestDrawnParts(t *testing.T) {
	s := numbers{state: 2}
	for range 500 {
		var parts [][]byte
		for range s.below(10) {
			switch s.below(4) {
			case 0:
				parts = append(parts, nil)
			case 1:
				parts = append(parts, s.bytes(s.below(4)))
			default:
				parts = append(parts, s.bytes(s.below(200)))
			}
		}
		wantParted(t, "drawn parts", parts...)
	}
}

// Two absorptions are something else than one of both, and in another order
// something else again.
func TestAbsorptionsAreNotParts(t *testing.T) {
	for _, n := range append(counts(), 4000) {
		for _, b := range kinds(n) {
			for _, at := range []int{0, n / 3, n / 2, n} {
				front, back := b[:at], b[at:]
				one, two, other := of(t, "two"), of(t, "two"), of(t, "two")
				mTwo, mOther := begun("two"), begun("two")
				absorb(t, one, front, back)
				absorb(t, two, front)
				absorb(t, two, back)
				mTwo.absorb(front)
				mTwo.absorb(back)
				absorb(t, other, back)
				absorb(t, other, front)
				mOther.absorb(back)
				mOther.absorb(front)
				what := strconv.Itoa(n) + " bytes, " + strconv.Itoa(at) + " first"
				want(t, what, draw(t, two.Clone()), mTwo.draw())
				want(t, what+", the other way round", draw(t, other.Clone()), mOther.draw())
				x := draw(t, two)
				if x == draw(t, one) {
					t.Errorf("%s: two absorptions are as one of both", what)
				}
				if !slices.Equal(front, back) && x == draw(t, other) {
					t.Errorf("%s: the order of two absorptions plays no part", what)
				}
			}
		}
	}
}

// A label is no absorption, an absorption no challenge, and no label another one.
func TestWhatIsSaidIsToldApart(t *testing.T) {
	seen := map[fr.El]string{}
	note := func(what string, s *script.Script) {
		t.Helper()
		x := draw(t, s)
		if before, is := seen[x]; is {
			t.Errorf("%s and %s are as one", before, what)
		}
		seen[x] = what
	}
	for _, label := range []string{"", "x", "y", "xy", "\x00", "\x01", "x\x01", "x\x00"} {
		s := of(t, label)
		note("the label "+strconv.Quote(label), s.Clone())
		drawn := s.Clone()
		b := draw(t, drawn).Scalar()
		note("a challenge of "+strconv.Quote(label), drawn)
		absorb(t, s, b[:])
		note("a challenge that is absorbed, of "+strconv.Quote(label), s)
		for _, part := range []string{"x", "y", "\x00", "\x01", "\x00\x00", "xy"} {
			s := of(t, label)
			absorb(t, s, []byte(part))
			note(strconv.Quote(part)+" behind "+strconv.Quote(label), s)
		}
	}
}

// step is one that both of two scripts, or a script and a model, go.
type step struct {
	kind  int
	bytes []byte
	n     int
}

const (
	absorbing = iota
	drawing
	drawingOutside
	refusedSize
	refusedLong
	cloning
	kindsOfSteps
)

// steps are drawn ones.
func steps(s *numbers, n int) []step {
	l := make([]step, n)
	for i := range l {
		l[i] = step{s.below(kindsOfSteps), s.bytes(s.below(300)), 1 + s.below(api.MaxDomain)}
	}
	return l
}

// partings are several ways to part bytes.
func partings(b []byte) [][][]byte {
	n := len(b)
	return [][][]byte{{b}, cut(b, n/2), parted(b, 1), {nil, b, {}}, cut(b, n/3, n/3, n/2), parted(b, 64)}
}

// take goes a step with a script, by one of the ways to part bytes, and tells a
// challenge, if there is one, and the script to go on with.
func (x step) take(t *testing.T, s *script.Script, way int) (fr.El, *script.Script) {
	t.Helper()
	switch x.kind {
	case absorbing:
		l := partings(x.bytes)
		absorb(t, s, l[way%len(l)]...)
	case drawing:
		return draw(t, s), s
	case drawingOutside:
		return outside(t, s, x.n), s
	case refusedSize:
		if _, e := s.Outside(x.n + api.MaxDomain); e != api.ErrSize {
			t.Errorf("Outside(%d): %v", x.n+api.MaxDomain, e)
		}
	case refusedLong:
		if e := s.Absorb(x.bytes, make([]byte, api.MaxText), []byte{1}); e != api.ErrLong {
			t.Errorf("Absorb of too much: %v", e)
		}
	default:
		return fr.El{}, s.Clone()
	}
	return fr.El{}, s
}

// Scripts that go the same steps draw the same, whatever they are refused between,
// and however absorptions are parted.
func TestSameStepsSameDraws(t *testing.T) {
	drawn := numbers{state: 3}
	for run := range 60 {
		label := string(drawn.bytes(drawn.below(100)))
		m := begun(label)
		var scripts []*script.Script
		for range 6 {
			scripts = append(scripts, of(t, label))
		}
		for i, x := range steps(&drawn, 40) {
			what := "the run " + strconv.Itoa(run) + ", the step " + strconv.Itoa(i)
			for way, s := range scripts {
				var got fr.El
				got, scripts[way] = x.take(t, s, way)
				if x.kind != drawing && x.kind != drawingOutside {
					continue
				}
				after := m.clone()
				if x.kind == drawing {
					want(t, what, got, after.draw())
				} else {
					want(t, what, got, after.outside(x.n))
				}
				if way == len(scripts)-1 {
					m = after
				}
			}
			if x.kind == absorbing {
				m.absorb(x.bytes)
			}
		}
		for _, s := range scripts {
			wantNext(t, "at the end of the run "+strconv.Itoa(run), s, m)
		}
	}
}
