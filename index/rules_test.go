package index_test

import (
	"fmt"
	"math"
	"runtime"
	"slices"
	"sync"
	"testing"

	"marlinspike/api"
	"marlinspike/fr"
	"marlinspike/index"
	"marlinspike/pad"
)

// R1 to R8 for this layer's calls.

// edgeSizes are numbers of all kinds, sizes of domains and none.
func edgeSizes() []int { return append(noSizes(), 1, 2, 4, 8, 16, 1024, api.MaxDomain) }

// wildShapes are shapes of any numbers, places and entries.
func (s *numbers) wildShapes(count int) (l []pad.Shape) {
	edge := func() int { return edgeSizes()[s.below(len(edgeSizes()))] }
	rows := []uint32{0, 1, 3, 7, 8, 1 << 16, 1 << 31, math.MaxUint32}
	vals := []api.Scalar{{}, bytesOf(whole(1)), bytesOf(minus(1)), bytesOf(r), {255}}
	for range count {
		shape := pad.Shape{N: edge(), X: edge(), M: edge(), Inputs: edge(), Places: []int{edge()}}
		if s.below(3) > 0 {
			shape.N, shape.M = 8, 1<<s.below(5)
		}
		for i := range shape.Rows {
			for range s.below(6) {
				x := api.Entry{Row: uint32(s.below(8)), Col: uint32(s.below(8)), Val: bytesOf(s.big())}
				switch s.below(30) {
				case 0:
					x.Row = rows[s.below(len(rows))]
				case 1:
					x.Col = rows[s.below(len(rows))]
				case 2:
					x.Val = vals[s.below(len(vals))]
				}
				shape.Rows[i] = append(shape.Rows[i], x)
			}
		}
		l = append(l, shape)
	}
	great := [3][]api.Entry{make([]api.Entry, 1<<18), make([]api.Entry, 1<<18), nil}
	return append(l, pad.Shape{}, pad.Shape{N: math.MaxInt, M: math.MaxInt}, pad.Shape{N: math.MinInt, M: math.MinInt}, pad.Shape{N: 4, M: 4, Rows: great})
}

// wildIndexes are some of any numbers and lists; great ones have nothing to add up.
func (s *numbers) wildIndexes(count int) (l []index.Index) {
	edge := func() int { return edgeSizes()[s.below(len(edgeSizes()))] }
	for range count {
		x := index.Index{N: edge(), X: edge(), M: edge()}
		if s.below(3) > 0 {
			x.N, x.M = 1<<s.below(6), 1<<s.below(6)
		}
		for _, p := range lists(&x) {
			if x.N*x.M <= 1<<12 {
				*p = els(append(s.list(s.below(9)), wholes(0, 0)[:s.below(3)]...))
			}
		}
		l = append(l, x)
	}
	long := index.Index{N: 4, M: 4}
	for _, p := range lists(&long) {
		*p = els(slices.Repeat(s.list(1<<10), 1<<7))
	}
	return append(l, index.Index{}, index.Index{N: math.MaxInt, M: math.MaxInt}, index.Index{N: math.MinInt, M: math.MinInt}, long)
}

// edgeScalars are some at the edges.
func (s *numbers) edgeScalars() []fr.El {
	return append(els(append(wholes(0, 1, -1, 2), s.big())), fr.El{}, el(elementsOf(8)[3]))
}

// R1, R4: nothing panics, and beside an error there is nothing.
func TestNothingPanics(t *testing.T) {
	s := numbers{state: 40}
	told := map[api.Errno]int{}
	for _, shape := range s.wildShapes(2000) {
		x, e := index.Of(shape)
		told[e]++
		if e != fault(shape) || e != api.OK && !sameIndex(x, index.Index{}) {
			t.Errorf("%s: %s, %v, not %v", brief(shape), brief(x), e, fault(shape))
		}
	}
	if told[api.OK] < 200 || told[api.ErrArg] < 200 || told[api.ErrSize] < 200 || len(told) != 3 {
		t.Errorf("too few: %v", told)
	}
	clear(told)
	edges := s.edgeScalars()
	edge := func() fr.El { return edges[s.below(len(edges))] }
	for _, x := range s.wildIndexes(400) {
		wanted := api.OK
		if !slices.Contains(powersOf2(), x.N) || !slices.Contains(powersOf2(), x.M) {
			wanted = api.ErrSize
		}
		e := [3]fr.El{edge(), edge(), edge()}
		a, b := edge(), edge()
		sum, one := x.Sum(e, a, b)
		p, other := x.Poly(e, a)
		told[one]++
		if one != wanted || other != wanted || wanted != api.OK && (sum != fr.El{} || len(p) != 0) {
			t.Errorf("%s: %v, %v, %v, %v", brief(x), back(sum), one, backs(p), other)
		}
	}
	if told[api.OK] < 100 || told[api.ErrSize] < 50 {
		t.Errorf("too few: %v", told)
	}
}

// sumAnswers are what an Index's calls tell, as texts.
func sumAnswers(x index.Index, e [3]fr.El, a, b fr.El) (l []string) {
	add := func(what ...any) { l = append(l, fmt.Sprint(what...)) }
	add(x.Sum(e, a, b))
	add(x.Poly(e, a))
	add(x.Sum([3]fr.El{}, b, a))
	add(x.Poly([3]fr.El{1: b}, fr.El{}))
	return l
}

// answers are what all calls tell.
func answers(s pad.Shape, e [3]fr.El, a, b fr.El) []string {
	x, fault := index.Of(s)
	return append(sumAnswers(x, e, a, b), fmt.Sprint(x, fault))
}

// R2
func TestAnswersHangOnArgumentsAlone(t *testing.T) {
	s := numbers{state: 41}
	few, more := s.byHand(sized{4, 8, 3, 8, 0}), padded(t, s.drawn(sketch{20, 9, 9, 40, 50, 60}))
	e, a, b := three(s.triple()), el(s.big()), el(s.big())
	first, second := answers(few, e, a, b), answers(more, e, b, a)
	x := indexOf(t, few)
	third := sumAnswers(x, e, b, a)
	others, indexes := s.wildShapes(20), s.wildIndexes(20)
	for i := range 20 {
		index.Of(others[i])
		indexes[i].Sum(e, b, a)
		indexes[i].Poly(e, b)
		if !slices.Equal(answers(few, e, a, b), first) || !slices.Equal(answers(cloneShape(more), e, b, a), second) {
			t.Error("asked again, it is another one")
		}
		if !slices.Equal(sumAnswers(x, e, b, a), third) || !slices.Equal(sumAnswers(cloneIndex(x), e, b, a), third) {
			t.Error("asked the index again, it is another one")
		}
	}
}

// What may be asked may be asked by many at once, of the same lists.
func TestManyAtOnce(t *testing.T) {
	s := numbers{state: 42}
	shape := s.byHand(sized{16, 32, 32, 9, 20})
	x, e, a, b := indexOf(t, shape), three(s.triple()), el(s.big()), el(s.big())
	wanted, more := answers(shape, e, a, b), sumAnswers(x, e, b, a)
	var workers sync.WaitGroup
	for range 8 {
		workers.Go(func() {
			for range 5 {
				if !slices.Equal(answers(shape, e, a, b), wanted) || !slices.Equal(sumAnswers(x, e, b, a), more) {
					t.Error("at once, it is another one")
				}
			}
		})
	}
	workers.Wait()
}

// What lies behind the ends of lists: nobody may touch it.
func room() []api.Entry {
	return []api.Entry{{Row: 5, Col: 6, Val: bytesOf(whole(7))}, {}, {Row: math.MaxUint32, Val: bytesOf(r)}}
}

func roomEl() []fr.El { return els(wholes(9, 0, -8, 7)) }

func roomPlaces() []int { return []int{1, 0, -1, math.MaxInt} }

// roomy is a list with room behind its end.
func roomy[T any](l, room []T) []T {
	long := slices.Concat(l, room)
	return long[:len(l)]
}

// untouched tells whether a list made by roomy is as it was, and its room too.
func untouched[T comparable](l, was, room []T) bool {
	return len(l) == len(was) && slices.Equal(l[:len(was)+len(room)], slices.Concat(was, room))
}

// spoil writes to all of a list, and to the room behind it.
func spoil[T any](l []T, x T) {
	for i := range l[:cap(l)] {
		l[:cap(l)][i] = x
	}
}

// R3: nothing is changed of a shape, of one that is refused and of one that is not.
func TestNoShapeIsChanged(t *testing.T) {
	s := numbers{state: 43}
	l := []pad.Shape{padded(t, square()), padded(t, cube())}
	for i, x := range manySizes() {
		shape := s.byHand(x)
		l = append(l, shape, s.spoilt(shape, 1+i%3))
	}
	for _, x := range sketches() {
		l = append(l, padded(t, s.drawn(x)))
	}
	e, a, b := three(s.triple()), el(s.big()), el(s.big())
	for i, shape := range append(l, s.wildShapes(100)...) {
		o := shape
		o.Places = roomy(shape.Places, roomPlaces())
		for k := range o.Rows {
			o.Rows[k] = roomy(shape.Rows[k], room())
		}
		was := cloneShape(shape)
		if shape.N <= 1024 && shape.M <= 1024 {
			if got, wanted := answers(o, e, a, b), answers(shape, e, a, b); !slices.Equal(got, wanted) {
				t.Errorf("the shape %d, with room behind: %v, not %v", i, got, wanted)
			}
		}
		index.Of(o)
		is := o.N == was.N && o.X == was.X && o.M == was.M && o.Inputs == was.Inputs && untouched(o.Places, was.Places, roomPlaces())
		for k := range o.Rows {
			is = is && untouched(o.Rows[k], was.Rows[k], room())
		}
		if !is {
			t.Errorf("the shape %d was changed", i)
		}
	}
}

// R3: nor of an Index.
func TestNoIndexIsChanged(t *testing.T) {
	s := numbers{state: 44}
	var l []index.Index
	for _, x := range manySizes() {
		l = append(l, indexOf(t, s.byHand(x)))
	}
	e, a, b := three(s.triple()), el(s.big()), el(s.big())
	for i, x := range append(l, s.wildIndexes(30)...) {
		was, o := cloneIndex(x), x
		for _, p := range lists(&o) {
			*p = roomy(*p, roomEl())
		}
		if got, wanted := sumAnswers(o, e, a, b), sumAnswers(x, e, a, b); !slices.Equal(got, wanted) {
			t.Errorf("the index %d, with room behind: %v, not %v", i, got, wanted)
		}
		is := o.N == was.N && o.X == was.X && o.M == was.M
		wases := lists(&was)
		for j, p := range lists(&o) {
			is = is && untouched(*p, *wases[j], roomEl())
		}
		if !is || !sameIndex(x, was) {
			t.Errorf("the index %d was changed", i)
		}
	}
}

// R3: what is handed out shares nothing with what was handed in, nor with other answers.
func TestAnswersAreApart(t *testing.T) {
	s := numbers{state: 45}
	junk := api.Entry{Row: 9, Col: 9, Val: bytesOf(whole(9))}
	for i, size := range manySizes() {
		shape := s.byHand(size)
		e, a := three(s.triple()), el(s.big())
		o := cloneShape(shape)
		x, again := indexOf(t, o), indexOf(t, o)
		wasX := cloneIndex(x)
		p, more := polyAt(t, x, e, a), polyAt(t, x, e, a)
		was := slices.Clone(p)
		spoil(more, fr.Of(77))
		for _, l := range lists(&again) {
			spoil(*l, fr.Of(77))
		}
		if !sameIndex(x, wasX) || !slices.Equal(p, was) {
			t.Errorf("%d: it shows what was written to another answer", i)
		}
		for k := range o.Rows {
			if !slices.Equal(o.Rows[k], shape.Rows[k]) {
				t.Errorf("%d: what was written to an answer was written to the shape", i)
			}
			spoil(o.Rows[k], junk)
		}
		if !sameIndex(x, wasX) || !slices.Equal(p, was) {
			t.Errorf("%d: it shows what was written to what was handed in", i)
		}
		for _, l := range lists(&x) {
			spoil(*l, fr.Of(78))
		}
		if !slices.Equal(p, was) {
			t.Errorf("%d: a polynomial shows what was written to what it was made of", i)
		}
		spoil(p, fr.Of(79))
		x = indexOf(t, shape)
		if !sameIndex(x, wasX) || !slices.Equal(polyAt(t, x, e, a), was) {
			t.Errorf("%d: asked once more, it is another one", i)
		}
	}
}

// R3: no two of the nine lists share any room, whichever is written to, and what is put
// behind one of them goes nowhere else; not even if the shape's lists are one.
func TestListsAreApart(t *testing.T) {
	s := numbers{state: 46}
	for i, size := range manySizes() {
		shape := s.byHand(size)
		if i%2 == 0 {
			shape.Rows[1], shape.Rows[2] = shape.Rows[0], shape.Rows[0][:len(shape.Rows[0])/2]
		}
		wanted := indexOf(t, shape)
		for j := range 9 {
			got := indexOf(t, shape)
			l := lists(&got)[j]
			_ = append(*l, slices.Repeat(els(wholes(9)), 20)...)
			spoil(*l, fr.Of(9))
			*l = *lists(&wanted)[j]
			if !sameIndex(got, wanted) || !sameIndex(indexOf(t, shape), wanted) {
				t.Errorf("%d: the list %d shares room", i, j)
			}
		}
	}
}

// R3: not even if the polynomial is the same as a list of the Index.
func TestPolyIsNoListOfTheIndex(t *testing.T) {
	for i := range 9 {
		one := els(wholes(1))
		x := index.Index{N: 1, M: 1, Val: [3][]fr.El{one, nil, nil}}
		*lists(&x)[i] = els(wholes(1))
		was := cloneIndex(x)
		p := polyAt(t, x, alone(0), fr.Of(5))
		wantScalars(t, fmt.Sprint(i), p, wholes(1))
		spoil(p, fr.Of(9))
		if !sameIndex(x, was) {
			t.Errorf("%d: what was written to the polynomial was written to the index", i)
		}
	}
}

// One list in several places is as good as several.
func TestListsThatShareMemory(t *testing.T) {
	s := numbers{state: 47}
	m := s.loose(4, 12)
	e, a, b := three(s.triple()), el(s.big()), el(s.big())
	for i := range m {
		shape := pad.Shape{N: 4, M: 16, Rows: [3][]api.Entry{m, m[:i], m[i:]}}
		if got, wanted := answers(shape, e, a, b), answers(cloneShape(shape), e, a, b); !slices.Equal(got, wanted) {
			t.Errorf("the shape %d: %v, not %v", i, got, wanted)
		}
	}
	p := els(s.list(6))
	x := index.Index{N: 4, M: 4, Row: [3][]fr.El{p, p[:3], p[1:]}, Col: [3][]fr.El{p, p[2:], p}, Val: [3][]fr.El{p[:4], p, p}}
	if got, wanted := sumAnswers(x, e, a, b), sumAnswers(cloneIndex(x), e, a, b); !slices.Equal(got, wanted) {
		t.Errorf("the index: %v, not %v", got, wanted)
	}
}

// What is written to an Index counts, and to the shape no more.
func TestWhatIsWrittenCounts(t *testing.T) {
	s := numbers{state: 48}
	shape := s.byHand(sized{4, 4, 3, 4, 2})
	x := indexOf(t, shape)
	before := cloneIndex(x)
	shape.Rows[0][0] = entry(0, 0, whole(77))
	shape.N = 3
	if !sameIndex(x, before) {
		t.Error("the index shows what was written to the shape")
	}
	e := s.triple()
	for i, p := range lists(&x) {
		*p = els(s.list(5))
		wantSums(t, fmt.Sprint("the list ", i), x, valuesOf(x), e, s.big(), wholes(3, 0))
	}
	x.N = 2
	wantSums(t, "another N", x, valuesOf(x), e, s.big(), wholes(3, 0))
	x.M = 8
	wantSums(t, "another M", x, valuesOf(x), e, s.big(), wholes(3, 0))
}

// R6
func TestEmptyListsMayBeNil(t *testing.T) {
	s := numbers{state: 49}
	full := s.loose(4, 4)
	e, a, b := three(s.triple()), el(s.big()), el(s.big())
	for i := range 8 {
		with := pad.Shape{N: 4, M: 4, Rows: [3][]api.Entry{full, full, full}}
		without := with
		for j := range 3 {
			if i>>j&1 == 1 {
				with.Rows[j], without.Rows[j] = []api.Entry{}, nil
			}
		}
		wantIndex(t, fmt.Sprint("empty, ", i), with)
		if !slices.Equal(answers(with, e, a, b), answers(without, e, a, b)) {
			t.Errorf("%d: nil and empty are not the same", i)
		}
	}
	first := indexOf(t, s.byHand(sized{4, 4, 3, 4, 2}))
	for i := range 9 {
		with, without := first, first
		*lists(&with)[i], *lists(&without)[i] = []fr.El{}, nil
		if !slices.Equal(sumAnswers(with, e, a, b), sumAnswers(without, e, a, b)) {
			t.Errorf("%d: nil and empty are not the same", i)
		}
		wantSums(t, fmt.Sprint(i), with, valuesOf(with), s.triple(), s.big(), wholes(3))
	}
}

// R8: what is refused takes no room that goes by sizes, however great they were, and
// leaves nothing behind.
func TestRefusedLeavesNoRoom(t *testing.T) {
	const n = api.MaxDomain
	most := make([]api.Entry, n+1)
	bad := []api.Entry{{Row: n}}
	shapes := []pad.Shape{
		{N: n, M: n, Rows: [3][]api.Entry{most, most, most}}, {N: n, M: n, Rows: [3][]api.Entry{nil, nil, bad}}, {N: n, M: 3, Rows: [3][]api.Entry{most}},
		{N: n - 1, M: n}, {N: n, M: n - 1}, {N: n, M: n, Rows: [3][]api.Entry{bad, most[:n], most[:n]}}, {N: 2 * n, M: 2 * n}, {N: math.MaxInt, M: math.MaxInt},
	}
	x := indexOf(t, pad.Shape{N: 4, M: n, Rows: [3][]api.Entry{most[:2]}})
	var before, after runtime.MemStats
	runtime.ReadMemStats(&before)
	for range 100 {
		for _, s := range shapes {
			if _, e := index.Of(s); e == api.OK {
				t.Fatal("not refused")
			}
		}
		for _, size := range []int{0, 3, n - 1, 2 * n, math.MaxInt} {
			o := x
			o.N = size
			refuseSums(t, fmt.Sprint(size), o)
			o.N, o.M = n, size
			refuseSums(t, fmt.Sprint(size), o)
		}
	}
	runtime.ReadMemStats(&after)
	if more := after.TotalAlloc - before.TotalAlloc; more > 16<<20 {
		t.Errorf("refused calls took %d bytes", more)
	}
}
