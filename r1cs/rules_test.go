package r1cs_test

import (
	"bytes"
	"fmt"
	"math"
	"runtime"
	"slices"
	"sync"
	"testing"

	"marlinspike/api"
	"marlinspike/fr"
	"marlinspike/r1cs"
)

// R1 to R8 for this layer's calls.

// wild are circuits of any numbers and entries.
func (s *numbers) wild(count int) (l []api.Circuit) {
	edge := func() uint32 { return counts()[s.below(len(counts()))] }
	for range count {
		c := api.Circuit{Rows: edge(), Cols: edge(), Inputs: edge()}
		for _, m := range matrices(&c) {
			for range s.below(5) {
				*m = append(*m, api.Entry{Row: edge(), Col: edge(), Val: values()[s.below(len(values()))].val})
			}
		}
		l = append(l, c)
	}
	return append(l, api.Circuit{}, api.Circuit{A: []api.Entry{}}, api.Circuit{Rows: 1, Cols: 1, Inputs: 1, B: make([]api.Entry, 1<<18)}, api.Circuit{Rows: math.MaxUint32, Cols: math.MaxUint32, Inputs: math.MaxUint32})
}

// R1
func TestNothingPanics(t *testing.T) {
	s := numbers{state: 50}
	zs := [][]fr.El{nil, {}, make([]fr.El, 1), els(wholes(1)), els(wholes(1, 2)), els(s.assignment(1024)), make([]fr.El, 1<<17)}
	for _, c := range s.wild(1000) {
		r1cs.Check(c)
		r1cs.Bytes(c)
		for i, z := range zs {
			r1cs.Satisfied(c, z)
			for _, rows := range []int{math.MinInt, -1, 0, 1, 5, math.MaxInt} {
				r1cs.Apply(*matrices(&c)[i%3], rows, z)
			}
		}
		r1cs.Apply(c.A, api.MaxRows+1, zs[6])
	}
	for _, rows := range append(badRows(), 0, 1, api.MaxDomain) {
		r1cs.Apply(make([]api.Entry, 1<<17), rows, zs[3])
		r1cs.Apply(nil, rows, nil)
	}
}

// R1
func TestNoBytesPanic(t *testing.T) {
	s := numbers{state: 51}
	right := text(s.drawn(sketch{5, 6, 3, 4, 4, 4}))
	for length := range 600 {
		b := make([]byte, length)
		r1cs.Get(b)
		for range 20 {
			for i := range b {
				b[i] = byte(s.word())
			}
			r1cs.Get(b)
			for i := range min(12, length) {
				b[i] = byte(i % 2 * s.below(12))
			}
			r1cs.Get(b)
			copy(b, right[:6])
			r1cs.Get(b)
		}
	}
	r1cs.Get(make([]byte, 1<<22))
	r1cs.Get(bytes.Repeat([]byte{1}, 1<<22))
	r1cs.Get(bytes.Repeat([]byte{255}, 1<<22))
}

// answers are what all calls tell, as texts.
func answers(c api.Circuit, z []fr.El) (l []string) {
	add := func(what ...any) { l = append(l, fmt.Sprint(what...)) }
	b, e := r1cs.Bytes(c)
	add(r1cs.Check(c), r1cs.Satisfied(c, z), b, e)
	add(r1cs.Get(b))
	for _, m := range matrices(&c) {
		add(r1cs.Apply(*m, int(c.Rows), z))
		add(r1cs.Apply(*m, 0, z))
	}
	return l
}

// R2
func TestAnswersHangOnArgumentsAlone(t *testing.T) {
	s := numbers{state: 52}
	few, z := s.solved(sketch{3, 4, 2, 5, 6, 7})
	more, y := s.solved(sketch{20, 9, 9, 40, 50, 60})
	first, second := answers(few, els(z)), answers(more, els(y))
	for _, c := range s.wild(20) {
		r1cs.Check(c)
		r1cs.Satisfied(c, els(z))
		r1cs.Bytes(c)
		r1cs.Get(text(c))
		r1cs.Apply(c.A, 5, els(y))
		if !slices.Equal(answers(few, els(z)), first) || !slices.Equal(answers(clone(more), els(y)), second) {
			t.Error("asked again, it is another one")
		}
	}
}

// What may be asked may be asked by many at once, of the same lists.
func TestManyAtOnce(t *testing.T) {
	s := numbers{state: 53}
	c, z := s.solved(sketch{20, 9, 9, 40, 50, 60})
	b, scalars := text(c), els(z)
	wanted := answers(c, scalars)
	var workers sync.WaitGroup
	for range 8 {
		workers.Go(func() {
			for range 5 {
				if !slices.Equal(answers(c, scalars), wanted) {
					t.Error("at once, it is another one")
				}
				if o, e := r1cs.Get(b); e != api.OK || !same(o, c) {
					t.Errorf("at once, it is %v, %v", o, e)
				}
			}
		})
	}
	workers.Wait()
}

// What lies behind the ends of lists: nobody may touch it.
func room() []api.Entry {
	return []api.Entry{{Row: 5, Col: 6, Val: bytesOf(whole(7))}, {}, {Row: math.MaxUint32, Val: bytesOf(r)}}
}

func roomEl() []fr.El { return els(wholes(9, 0, -8, 7)) }

// roomy is a list with room behind its end.
func roomy[T any](l, room []T) []T {
	long := slices.Concat(l, room)
	return long[:len(l)]
}

// untouched tells whether a list made by roomy is as it was, and its room too.
func untouched[T comparable](l, was, room []T) bool {
	return len(l) == len(was) && slices.Equal(l[:len(was)+len(room)], slices.Concat(was, room))
}

// spoil writes to all of a list, and to the room behind it.
func spoil[T any](l []T, x T) {
	for i := range l[:cap(l)] {
		l[:cap(l)][i] = x
	}
}

// R3: nothing is changed, of what is refused and of what is not.
func TestNothingIsChanged(t *testing.T) {
	s := numbers{state: 54}
	var l []api.Circuit
	for i, x := range sketches() {
		c := s.drawn(x)
		l = append(l, c, s.spoilt(c, 1+i%3))
	}
	for i, c := range append(l, s.wild(100)...) {
		o := c
		for _, m := range matrices(&o) {
			*m = roomy(*m, room())
		}
		was := els(s.assignment(int(c.Cols % 1500)))
		z := roomy(was, roomEl())
		wanted := answers(c, was)
		if got := answers(o, z); !slices.Equal(got, wanted) {
			t.Errorf("the circuit %d, with room behind: %v, not %v", i, got, wanted)
		}
		for j, m := range matrices(&o) {
			if !untouched(*m, *matrices(&c)[j], room()) {
				t.Errorf("the matrix %d of the circuit %d was changed", j, i)
			}
		}
		if !untouched(z, was, roomEl()) {
			t.Errorf("the assignment %d was changed", i)
		}
	}
}

// R3, of entries in any order, some of them at one place, and of such as are refused.
func TestApplyChangesNothing(t *testing.T) {
	s := numbers{state: 60}
	for i := range 200 {
		rows, cols := 1+s.below(6), 1+s.below(6)
		m, z := s.loose(rows, cols, s.below(30)), els(s.assignment(cols))
		l, y := roomy(m, room()), roomy(z, roomEl())
		wanted := applied(t, slices.Clone(m), rows, slices.Clone(z))
		got := applied(t, l, rows, y)
		r1cs.Apply(l, rows-1, y)
		r1cs.Apply(l, rows, y[1:])
		r1cs.Apply(l, -1, y)
		if !untouched(l, m, room()) || !untouched(y, z, roomEl()) {
			t.Errorf("the lists %d were changed", i)
		}
		spoil(l, api.Entry{Row: 1})
		spoil(y, fr.Of(77))
		wantScalars(t, fmt.Sprint("behind what was written to the lists ", i), got, wanted)
		_ = append(got, fr.Of(5))
		spoil(got, fr.Of(78))
		wantScalars(t, fmt.Sprint("asked again, of the lists ", i), applied(t, m, rows, z), wanted)
	}
}

// R3: bytes are not changed, and not kept.
func TestBytesAreNotChangedAndNotKept(t *testing.T) {
	s := numbers{state: 55}
	for i, x := range append(sketches(), greatSketches()[6]) {
		c := s.drawn(x)
		was := text(c)
		for j, filled := range [][]byte{make([]byte, 100), bytes.Repeat([]byte{255}, 100), was} {
			for _, more := range []int{0, -1, 1} {
				b := slices.Concat(was, filled)
				got, e := r1cs.Get(b[:len(was)+more])
				if wanted := []api.Errno{api.OK, api.ErrLong, api.ErrShort}[(more+3)%3]; e != wanted {
					t.Errorf("%d, %d, %d more: %v, not %v", i, j, more, e, wanted)
				}
				if !bytes.Equal(b, slices.Concat(was, filled)) {
					t.Errorf("%d, %d: the bytes were changed", i, j)
				}
				spoil(b, 77)
				if more == 0 && !same(got, c) {
					t.Errorf("%d, %d: it shows what was written to the bytes", i, j)
				}
			}
		}
	}
}

// R3: what is handed out shares nothing with what was handed in, nor with other answers.
func TestAnswersAreApart(t *testing.T) {
	s := numbers{state: 56}
	junk := api.Entry{Row: 9, Col: 9, Val: bytesOf(whole(9))}
	for i, x := range append(sketches(), greatSketches()...) {
		c, z := s.drawn(x), els(s.assignment(x.cols))
		o, was, y := clone(c), text(c), slices.Clone(z)
		b, again := textOf(t, o), textOf(t, o)
		sums, more := applied(t, o.A, x.rows, y), applied(t, o.A, x.rows, y)
		wanted := slices.Clone(sums)
		spoil(more, fr.Of(77))
		spoil(again, 77)
		if !bytes.Equal(b, was) || !slices.Equal(sums, wanted) || !same(o, c) || !slices.Equal(y, z) {
			t.Errorf("%d: it shows what was written to another answer", i)
		}
		for _, m := range matrices(&o) {
			spoil(*m, junk)
		}
		spoil(y, fr.Of(78))
		if !bytes.Equal(b, was) || !slices.Equal(sums, wanted) {
			t.Errorf("%d: it shows what was written to what was handed in", i)
		}
		if !bytes.Equal(textOf(t, c), was) || !slices.Equal(applied(t, c.A, x.rows, z), wanted) {
			t.Errorf("%d: asked once more, it is another one", i)
		}
	}
}

// R3: no two lists of one answer share any room, whichever is written to, and what is
// put behind one of them goes nowhere else.
func TestMatricesAreApart(t *testing.T) {
	s := numbers{state: 57}
	junk := api.Entry{Row: 9, Col: 9, Val: bytesOf(whole(9))}
	for i, x := range append(sketches(), greatSketches()...) {
		c := s.drawn(x)
		b := text(c)
		for j := range 3 {
			got, other := circuitOf(t, b), circuitOf(t, b)
			m := matrices(&got)[j]
			_ = append(*m, slices.Repeat([]api.Entry{junk}, 20)...)
			spoil(*m, junk)
			*m = *matrices(&c)[j]
			if !same(got, c) || !same(other, c) || !bytes.Equal(b, text(c)) {
				t.Errorf("%d: the matrix %d shares room", i, j)
			}
		}
	}
}

// What is written to a circuit counts.
func TestWhatIsWrittenCounts(t *testing.T) {
	c, z := square(), els(wholes(1, 9, 3))
	if e := r1cs.Satisfied(c, z); e != api.OK {
		t.Errorf("as it was: %v", e)
	}
	c.C[0].Val = bytesOf(whole(2))
	if e := r1cs.Satisfied(c, z); e != api.ErrCheck {
		t.Errorf("another entry: %v", e)
	}
	z[1] = fr.Of(18)
	c = square()
	if e := r1cs.Satisfied(c, z); e != api.ErrCheck {
		t.Errorf("another scalar: %v", e)
	}
	wantText(t, "the first again", c, text(square()))
}

// One list in several places is as good as several.
func TestListsThatShareMemory(t *testing.T) {
	s := numbers{state: 58}
	m := s.matrix(4, 5, 12)
	z := els(s.assignment(5))
	for i := range m {
		c := api.Circuit{Rows: 4, Cols: 5, Inputs: 2, A: m, B: m[:i], C: m[i:]}
		o := clone(c)
		if !slices.Equal(answers(c, z), answers(o, z)) {
			t.Errorf("the circuit %d: %v, not %v", i, answers(c, z), answers(o, z))
		}
	}
}

// R4: beside an error there is nothing.
func TestBesideErrors(t *testing.T) {
	s := numbers{state: 59}
	refused := 0
	for _, c := range s.wild(500) {
		b, e := r1cs.Bytes(c)
		if (e == api.OK) != (len(b) > 0) {
			t.Errorf("%v: %d bytes, %v", c, len(b), e)
		}
		o, e := r1cs.Get(text(c))
		if e != api.OK {
			refused++
		}
		if e != api.OK && (o.Rows != 0 || o.Cols != 0 || o.Inputs != 0 || len(o.A)+len(o.B)+len(o.C) > 0) {
			t.Errorf("%v: %v, %v", c, o, e)
		}
		l, e := r1cs.Apply(c.A, 3, els(wholes(1, 2, 3)))
		if (e == api.OK) != (len(l) == 3) || e != api.OK && len(l) > 0 {
			t.Errorf("%v: %v, %v", c.A, l, e)
		}
	}
	if refused < 300 {
		t.Errorf("just %d were refused", refused)
	}
}

// R6
func TestEmptyListsMayBeNil(t *testing.T) {
	full := entries([3]int64{0, 0, 2})
	for i := range 8 {
		with := api.Circuit{Rows: 2, Cols: 1, Inputs: 1, A: full, B: full, C: full}
		without := with
		for j, m := range matrices(&with) {
			if i>>j&1 == 1 {
				*m, *matrices(&without)[j] = []api.Entry{}, nil
			}
		}
		wantText(t, fmt.Sprint("empty, ", i), with, text(without))
		wantText(t, fmt.Sprint("nil, ", i), without, text(with))
		z := els(wholes(1))
		if a, b := r1cs.Satisfied(with, z), r1cs.Satisfied(without, z); a != b {
			t.Errorf("%d: %v, %v", i, a, b)
		}
	}
	for _, z := range [][]fr.El{nil, {}} {
		if e := r1cs.Satisfied(square(), z); e != api.ErrArg {
			t.Errorf("no scalars: %v", e)
		}
	}
	refuseGet(t, "nil", nil, api.ErrShort)
	refuseGet(t, "empty", []byte{}, api.ErrShort)
}

// R8: what is refused takes no room, however much there was of it.
func TestRefusedLeavesNoRoom(t *testing.T) {
	long := make([]api.Entry, 1<<16)
	great := api.Circuit{Rows: 1024, Cols: 1024, Inputs: 1, A: filled(api.MaxEntry), B: filled(api.MaxEntry + 1), C: long}
	bad := api.Circuit{Rows: 1024, Cols: 1024, Inputs: 1, A: long[:api.MaxEntry]}
	none := api.Circuit{A: filled(api.MaxEntry), B: filled(api.MaxEntry)}
	z, m := make([]fr.El, 1024), entries([3]int64{0, 0, 1}, [3]int64{3, 4, 5}, [3]int64{api.MaxDomain, 0, 1})
	most := append(head(1024, 1024, 1, 4096, 4096, 4096), make([]byte, 3*36*4096+1)...)
	over := append(head(1024, 1024, 1, 4097, 4096, 4096), make([]byte, 3*36*4096+36)...)
	var before, after runtime.MemStats
	runtime.ReadMemStats(&before)
	for range 100 {
		for _, c := range []api.Circuit{great, bad, none} {
			r1cs.Check(c)
			r1cs.Satisfied(c, z)
			r1cs.Bytes(c)
		}
		r1cs.Satisfied(square(), z)
		for _, rows := range []int{api.MaxDomain, api.MaxDomain + 1, math.MaxInt, -1} {
			r1cs.Apply(m, rows, z)
			r1cs.Apply(long, rows, nil)
		}
		r1cs.Get(most)
		r1cs.Get(most[:len(most)-2])
		r1cs.Get(most[:12])
		r1cs.Get(over)
	}
	runtime.ReadMemStats(&after)
	if more := after.TotalAlloc - before.TotalAlloc; more > 1<<20 {
		t.Errorf("refused calls took %d bytes", more)
	}
}
