package pad_test

import (
	"fmt"
	"math"
	"runtime"
	"slices"
	"sync"
	"testing"

	"marlinspike/api"
	"marlinspike/fr"
	"marlinspike/pad"
)

// R1 to R8 for this layer's calls.

// wild are circuits of any numbers and entries.
func (s *numbers) wild(count int) (l []api.Circuit) {
	edge := func() uint32 { return counts()[s.below(len(counts()))] }
	for range count {
		c := api.Circuit{Rows: edge(), Cols: edge(), Inputs: edge()}
		for _, m := range matrices(&c) {
			for range s.below(5) {
				*m = append(*m, api.Entry{Row: edge(), Col: edge(), Val: values()[s.below(len(values()))]})
			}
		}
		l = append(l, c)
	}
	return append(l, api.Circuit{}, api.Circuit{A: []api.Entry{}}, api.Circuit{Rows: 1, Cols: 1, Inputs: 1, B: make([]api.Entry, 1<<18)}, api.Circuit{Rows: math.MaxUint32, Cols: math.MaxUint32, Inputs: math.MaxUint32})
}

// sizes are numbers of all kinds.
func sizes() []int {
	return []int{0, 1, 2, 3, 4, -1, -2, api.MaxDomain, api.MaxDomain + 1, 1 << 31, 1 << 32, 1<<32 + 2, math.MinInt, math.MinInt + 1, math.MaxInt - 1, math.MaxInt}
}

// wildShapes are shapes of any numbers, places and entries.
func (s *numbers) wildShapes(count int) (l []pad.Shape) {
	edge := func() int { return sizes()[s.below(len(sizes()))] }
	for _, c := range s.wild(count) {
		shape := pad.Shape{N: edge(), X: edge(), M: edge(), Inputs: edge(), Rows: [3][]api.Entry{c.A, c.B, c.C}}
		if s.below(2) == 0 {
			shape.N = s.below(9)
		}
		for range s.below(4) {
			if s.below(3) > 0 {
				shape.Places = append(shape.Places, s.below(5))
				continue
			}
			shape.Places = append(shape.Places, edge())
		}
		l = append(l, shape)
	}
	return append(l, pad.Shape{}, pad.Shape{N: math.MaxInt}, pad.Shape{N: math.MinInt, Places: []int{math.MinInt}}, pad.Shape{N: 4, Places: make([]int, 1<<18)})
}

// lists are some of several lengths.
func (s *numbers) lists() [][]fr.El {
	l := [][]fr.El{nil, {}, els(s.list(1024)), make([]fr.El, api.MaxDomain), make([]fr.El, 1<<18)}
	for count := range 9 {
		l = append(l, els(s.list(count)))
	}
	return l
}

// R1, R4: nothing panics, and beside an error there is nothing.
func TestNothingPanics(t *testing.T) {
	s := numbers{state: 30}
	told := map[api.Errno]int{}
	for _, c := range s.wild(2000) {
		shape, e := pad.Of(c)
		told[e]++
		if e != fault(c) || e != api.OK && !sameShape(shape, pad.Shape{}) {
			t.Errorf("%s: %s, %v, not %v", brief(c), brief(shape), e, fault(c))
		}
	}
	lists := s.lists()
	for _, shape := range s.wildShapes(1000) {
		for _, z := range lists {
			l, e := shape.Spread(z)
			told[e]++
			if e != api.OK && len(l) != 0 || e == api.OK && (len(l) != shape.N || len(z) != len(shape.Places)) {
				t.Errorf("%s, %d scalars: %d, %v", brief(shape), len(z), len(l), e)
			}
			for _, k := range []int{math.MinInt, -1, 0, 1, 2, 3, math.MaxInt} {
				l, e := shape.Apply(k, z)
				told[e]++
				if e != api.OK && len(l) != 0 || e == api.OK && (len(l) != shape.N || len(z) != shape.N || k < 0 || k > 2) {
					t.Errorf("%s, the matrix %d, %d scalars: %d, %v", brief(shape), k, len(z), len(l), e)
				}
			}
		}
	}
	for _, e := range []api.Errno{api.OK, api.ErrArg, api.ErrLong, api.ErrIndex, api.ErrField, api.ErrZero} {
		if told[e] == 0 {
			t.Errorf("none is %v: %v", e, told)
		}
	}
}

// answers are what all calls tell, as texts.
func answers(c api.Circuit, z []fr.El) (l []string) {
	add := func(what ...any) { l = append(l, fmt.Sprint(what...)) }
	s, e := pad.Of(c)
	add(s, e)
	return append(l, shapeAnswers(s, z)...)
}

func shapeAnswers(s pad.Shape, z []fr.El) (l []string) {
	add := func(what ...any) { l = append(l, fmt.Sprint(what...)) }
	laid, e := s.Spread(z)
	add(laid, e)
	add(s.Spread(laid))
	for k := -1; k < 4; k++ {
		add(s.Apply(k, laid))
		add(s.Apply(k, z))
	}
	return l
}

// R2
func TestAnswersHangOnArgumentsAlone(t *testing.T) {
	s := numbers{state: 31}
	few, z := s.solved(sketch{3, 4, 2, 5, 6, 7})
	more, y := s.solved(sketch{20, 9, 9, 40, 50, 60})
	first, second := answers(few, els(z)), answers(more, els(y))
	shape := padOf(t, few)
	third := shapeAnswers(shape, els(z))
	for i, c := range s.wild(20) {
		pad.Of(c)
		padOf(t, s.drawn(sketches()[i]))
		for _, o := range s.wildShapes(1) {
			o.Spread(els(z))
			o.Apply(0, els(y))
		}
		if !slices.Equal(answers(few, els(z)), first) || !slices.Equal(answers(clone(more), els(y)), second) {
			t.Error("asked again, it is another one")
		}
		if !slices.Equal(shapeAnswers(shape, els(z)), third) || !slices.Equal(shapeAnswers(cloneShape(shape), els(z)), third) {
			t.Error("asked the shape again, it is another one")
		}
	}
}

// What may be asked may be asked by many at once, of the same lists.
func TestManyAtOnce(t *testing.T) {
	s := numbers{state: 32}
	c, z := s.solved(sketch{20, 9, 5, 40, 50, 60})
	scalars, shape := els(z), padOf(t, c)
	wanted, more := answers(c, scalars), shapeAnswers(shape, scalars)
	var workers sync.WaitGroup
	for range 8 {
		workers.Go(func() {
			for range 10 {
				if !slices.Equal(answers(c, scalars), wanted) || !slices.Equal(shapeAnswers(shape, scalars), more) {
					t.Error("at once, it is another one")
				}
			}
		})
	}
	workers.Wait()
}

// What lies behind the ends of lists: nobody may touch it.
func room() []api.Entry {
	return []api.Entry{{Row: 5, Col: 6, Val: bytesOf(whole(7))}, {}, {Row: math.MaxUint32, Val: bytesOf(r)}}
}

func roomEl() []fr.El { return els(wholes(9, 0, -8, 7)) }

func roomPlaces() []int { return []int{1, 0, -1, math.MaxInt} }

// roomy is a list with room behind its end.
func roomy[T any](l, room []T) []T {
	long := slices.Concat(l, room)
	return long[:len(l)]
}

// untouched tells whether a list made by roomy is as it was, and its room too.
func untouched[T comparable](l, was, room []T) bool {
	return len(l) == len(was) && slices.Equal(l[:len(was)+len(room)], slices.Concat(was, room))
}

// spoil writes to all of a list, and to the room behind it.
func spoil[T any](l []T, x T) {
	for i := range l[:cap(l)] {
		l[:cap(l)][i] = x
	}
}

// roomyShape is a shape whose lists have room behind their ends.
func roomyShape(s pad.Shape) pad.Shape {
	s.Places = roomy(s.Places, roomPlaces())
	for k := range s.Rows {
		s.Rows[k] = roomy(s.Rows[k], room())
	}
	return s
}

// untouchedShape tells whether one is as it was.
func untouchedShape(s, was pad.Shape) bool {
	is := s.N == was.N && s.X == was.X && s.M == was.M && s.Inputs == was.Inputs && untouched(s.Places, was.Places, roomPlaces())
	for k := range s.Rows {
		is = is && untouched(s.Rows[k], was.Rows[k], room())
	}
	return is
}

// R3: nothing is changed of a circuit, of one that is refused and of one that is not.
func TestNothingIsChanged(t *testing.T) {
	s := numbers{state: 33}
	l := []api.Circuit{square(), cube(), knotted()}
	for i, x := range sketches() {
		c := s.drawn(x)
		l = append(l, c, s.spoilt(c, 1+i%3))
	}
	for i, c := range append(l, s.wild(100)...) {
		o := c
		for _, m := range matrices(&o) {
			*m = roomy(*m, room())
		}
		was := els(s.assignment(int(c.Cols % 1500)))
		z := roomy(was, roomEl())
		wanted := answers(c, was)
		if got := answers(o, z); !slices.Equal(got, wanted) {
			t.Errorf("the circuit %d, with room behind: %v, not %v", i, got, wanted)
		}
		for j, m := range matrices(&o) {
			if !untouched(*m, *matrices(&c)[j], room()) {
				t.Errorf("the matrix %d of the circuit %d was changed", j, i)
			}
		}
		if !untouched(z, was, roomEl()) {
			t.Errorf("the assignment %d was changed", i)
		}
	}
}

// R3: nor of a shape, nor of scalars.
func TestNoShapeIsChanged(t *testing.T) {
	s := numbers{state: 34}
	var l []pad.Shape
	for _, x := range sketches() {
		l = append(l, padOf(t, s.drawn(x)))
	}
	for i, shape := range append(l, s.wildShapes(200)...) {
		if shape.N > 2000 {
			continue
		}
		o := roomyShape(shape)
		for _, count := range []int{len(shape.Places), len(shape.Places) + 1, max(0, shape.N), max(0, shape.N) + 1} {
			was := els(s.list(count))
			z := roomy(was, roomEl())
			if got, wanted := shapeAnswers(o, z), shapeAnswers(shape, was); !slices.Equal(got, wanted) {
				t.Errorf("the shape %d, with room behind: %v, not %v", i, got, wanted)
			}
			if !untouchedShape(o, shape) || !untouched(z, was, roomEl()) {
				t.Errorf("the shape %d, or scalars, were changed", i)
			}
		}
	}
}

// R3: what is handed out shares nothing with what was handed in, nor with other answers.
func TestAnswersAreApart(t *testing.T) {
	s := numbers{state: 35}
	junk := api.Entry{Row: 9, Col: 9, Val: bytesOf(whole(9))}
	for i, x := range append(sketches(), greatSketches()...) {
		c, z := s.drawn(x), els(s.assignment(x.cols))
		wanted := shapeOf(c)
		o, y := clone(c), slices.Clone(z)
		shape, again := padOf(t, o), padOf(t, o)
		laid, more := spread(t, shape, y), spread(t, shape, y)
		sums, others := applied(t, shape, i%3, laid), applied(t, shape, i%3, laid)
		wasLaid, wasSums := slices.Clone(laid), slices.Clone(sums)
		spoil(more, fr.Of(77))
		spoil(others, fr.Of(77))
		spoil(again.Places, -7)
		for k := range 3 {
			spoil(again.Rows[k], junk)
		}
		if !sameShape(shape, wanted) || !slices.Equal(laid, wasLaid) || !slices.Equal(sums, wasSums) {
			t.Errorf("%d: it shows what was written to another answer", i)
		}
		for j, m := range matrices(&o) {
			if !slices.Equal(*m, *matrices(&c)[j]) {
				t.Errorf("%d: what was written to an answer was written to the circuit", i)
			}
			spoil(*m, junk)
		}
		spoil(y, fr.Of(78))
		if !sameShape(shape, wanted) || !slices.Equal(laid, wasLaid) || !slices.Equal(sums, wasSums) {
			t.Errorf("%d: it shows what was written to what was handed in", i)
		}
		spoil(laid, fr.Of(79))
		spoil(shape.Places, -8)
		for k := range 3 {
			spoil(shape.Rows[k], junk)
		}
		if !slices.Equal(sums, wasSums) {
			t.Errorf("%d: sums show what was written to what they were made of", i)
		}
		shape = padOf(t, c)
		if !sameShape(shape, wanted) || !slices.Equal(spread(t, shape, z), wasLaid) || !slices.Equal(applied(t, shape, i%3, wasLaid), wasSums) {
			t.Errorf("%d: asked once more, it is another one", i)
		}
	}
}

// R3: no two lists of one answer share any room, whichever is written to, and what is
// put behind one of them goes nowhere else; not even if the circuit's lists are one.
func TestListsAreApart(t *testing.T) {
	s := numbers{state: 36}
	junk := api.Entry{Row: 9, Col: 9, Val: bytesOf(whole(9))}
	for i, x := range append(sketches(), greatSketches()...) {
		c := s.drawn(x)
		if i%2 == 0 {
			c.B, c.C = c.A, c.A[:len(c.A)/2]
		}
		wanted := shapeOf(c)
		for j := range 3 {
			got := padOf(t, c)
			_ = append(got.Rows[j], slices.Repeat([]api.Entry{junk}, 20)...)
			spoil(got.Rows[j], junk)
			got.Rows[j] = wanted.Rows[j]
			if !sameShape(got, wanted) || !sameShape(padOf(t, c), wanted) {
				t.Errorf("%d: the matrix %d shares room", i, j)
			}
		}
	}
}

// What is written to a shape counts.
func TestWhatIsWrittenCounts(t *testing.T) {
	s := padOf(t, square())
	s.Places[1], s.Places[2] = 1, 3
	wantSpread(t, "other places", s, wholes(1, 9, 3), wholes(1, 9, 0, 3))
	s.Rows[0][0].Row, s.Rows[0][0].Val = 2, bytesOf(whole(5))
	wantSums(t, "another entry", s, 0, wholes(1, 3, 9, 0), wholes(0, 0, 15, 0))
	wantSums(t, "the others", s, 1, wholes(1, 3, 9, 0), wholes(3, 0, 0, 0))
	s.N = 5
	wantSpread(t, "another size", s, wholes(1, 9, 3), wholes(1, 9, 0, 3, 0))
	wantSums(t, "another size", s, 0, wholes(1, 3, 9, 0, 7), wholes(0, 0, 15, 0, 0))
	wantShape(t, "the first again", square(), shapeOf(square()))
	c := square()
	c.A[0].Col = 0
	if s := padOf(t, c); s.Rows[0][0].Col != 0 || s.Rows[1][0].Col != 1 {
		t.Errorf("another circuit: %v", s)
	}
}

// One list in several places is as good as several.
func TestListsThatShareMemory(t *testing.T) {
	s := numbers{state: 37}
	m := s.matrix(4, 5, 12)
	z := els(s.assignment(5))
	for i := range m {
		c := api.Circuit{Rows: 4, Cols: 5, Inputs: 3, A: m, B: m[:i], C: m[i:]}
		if o := clone(c); !slices.Equal(answers(c, z), answers(o, z)) {
			t.Errorf("the circuit %d: %v, not %v", i, answers(c, z), answers(o, z))
		}
	}
}

// R4: an answer beside an error is zero, in each field.
func TestBesideErrors(t *testing.T) {
	s := numbers{state: 38}
	refused := 0
	for i := range 1000 {
		c := s.spoilt(s.drawn(sketches()[6+i%12]), 2)
		shape, e := pad.Of(c)
		if e == api.OK {
			continue
		}
		refused++
		if shape.N != 0 || shape.X != 0 || shape.M != 0 || shape.Inputs != 0 || len(shape.Places)+len(shape.Rows[0])+len(shape.Rows[1])+len(shape.Rows[2]) > 0 {
			t.Errorf("%s: %s, %v", brief(c), brief(shape), e)
		}
	}
	if refused < 300 {
		t.Errorf("just %d were refused", refused)
	}
}

// R6
func TestEmptyListsMayBeNil(t *testing.T) {
	full := entries([3]int64{0, 0, 2})
	for i := range 8 {
		with := api.Circuit{Rows: 2, Cols: 1, Inputs: 1, A: full, B: full, C: full}
		without := with
		for j, m := range matrices(&with) {
			if i>>j&1 == 1 {
				*m, *matrices(&without)[j] = []api.Entry{}, nil
			}
		}
		wanted := shapeOf(with)
		wantShape(t, fmt.Sprint("empty, ", i), with, wanted)
		wantShape(t, fmt.Sprint("nil, ", i), without, wanted)
		for k := range wanted.Rows {
			for _, none := range [][]api.Entry{nil, {}} {
				s := cloneShape(wanted)
				s.Rows[k] = none
				wantSums(t, fmt.Sprint("no entries, ", k), s, k, wholes(5, 6), wholes(0, 0))
			}
		}
	}
	for _, none := range [][]fr.El{nil, {}} {
		refuseSpread(t, "no scalars", padOf(t, square()), none)
		refuseApply(t, "no scalars", padOf(t, square()), 0, none, api.ErrArg)
		for _, places := range [][]int{nil, {}} {
			s := pad.Shape{N: 2, Places: places}
			wantScalars(t, "no places", spread(t, s, none), make([]fr.El, 2))
		}
	}
}

// R8: what is refused takes no room, however much there was of it.
func TestRefusedLeavesNoRoom(t *testing.T) {
	most := filled(api.MaxEntry+1, 1024)
	bad := slices.Clone(most[:api.MaxEntry])
	bad[1].Val = api.Scalar{}
	circuits := []api.Circuit{
		{Rows: 1024, Cols: 1024, Inputs: 1024, A: most[:api.MaxEntry], B: most, C: most},
		{Rows: 1024, Cols: 1024, Inputs: 1, A: bad, B: bad, C: bad},
		{A: most, B: most},
	}
	s := padOf(t, api.Circuit{Rows: 1024, Cols: 1024, Inputs: 1024, A: most[:1]})
	great := pad.Shape{N: api.MaxDomain, Places: []int{0, api.MaxDomain}, Rows: [3][]api.Entry{entries([3]int64{0, 0, 1}, [3]int64{api.MaxDomain, 0, 1})}}
	z, long := make([]fr.El, 1025), make([]fr.El, api.MaxDomain)
	var before, after runtime.MemStats
	runtime.ReadMemStats(&before)
	for range 100 {
		for _, c := range circuits {
			pad.Of(c)
		}
		for range 10 {
			s.Spread(z)
			s.Spread(nil)
			s.Apply(0, z)
			s.Apply(3, make([]fr.El, 0))
			great.Spread(z[:2])
			great.Apply(0, long)
			great.Apply(-1, long)
			pad.Shape{N: math.MaxInt}.Spread(nil)
		}
	}
	runtime.ReadMemStats(&after)
	if more := after.TotalAlloc - before.TotalAlloc; more > 1<<20 {
		t.Errorf("refused calls took %d bytes", more)
	}
}
