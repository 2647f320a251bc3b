package rounds_test

import (
	"fmt"
	"math"
	"math/big"
	"runtime"
	"slices"
	"sync"
	"testing"

	"marlinspike/api"
	"marlinspike/fr"
	"marlinspike/index"
	"marlinspike/pad"
	"marlinspike/rounds"
)

// R1 to R8 for this layer's calls.

// edgeSize is a number of any kind, the size of a domain or none.
func (s *numbers) edgeSize() int {
	l := append(noSizes(), 1, 2, 4, 8, 16, 1024, api.MaxDomain)
	return l[s.below(len(l))]
}

// edgeScalar is one at an edge, or any; some are of H.
func (s *numbers) edgeScalar() *big.Int {
	l := append(wholes(0, 1, -1, 2), elementsOf(8)[3], elementsOf(16)[1], s.big(), s.big())
	return l[s.below(len(l))]
}

// wildShape is a shape of any numbers, places and entries.
func (s *numbers) wildShape() pad.Shape {
	rows := []uint32{0, 1, 3, 7, 8, 1 << 16, 1 << 31, math.MaxUint32}
	vals := []api.Scalar{{}, bytesOf(whole(1)), bytesOf(minus(1)), bytesOf(r), {255}}
	shape := pad.Shape{N: s.edgeSize(), X: s.edgeSize(), M: s.edgeSize(), Inputs: s.edgeSize(), Places: []int{s.edgeSize()}}
	if s.below(4) > 0 {
		shape.N, shape.X, shape.M = 1<<s.below(5), 1<<s.below(5), 1<<s.below(5)
	}
	for i := range shape.Rows {
		for range s.below(6) {
			x := api.Entry{Row: uint32(s.below(4)), Col: uint32(s.below(4)), Val: bytesOf(s.big())}
			switch s.below(40) {
			case 0:
				x.Row = rows[s.below(len(rows))]
			case 1:
				x.Col = rows[s.below(len(rows))]
			case 2:
				x.Val = vals[s.below(len(vals))]
			}
			shape.Rows[i] = append(shape.Rows[i], x)
		}
	}
	return shape
}

// wildList is a list of some length, which is most often this one.
func (s *numbers) wildList(count int) []*big.Int {
	if count < 0 || count > 1<<12 || s.below(8) == 0 {
		count = s.below(12)
	}
	return s.list(count)
}

// wildIndex is one of any numbers and lists.
func (s *numbers) wildIndex() index.Index {
	x := index.Index{N: s.edgeSize(), X: s.edgeSize(), M: s.edgeSize()}
	if s.below(4) > 0 {
		x.N, x.X, x.M = 1<<s.below(5), 1<<s.below(5), 1<<s.below(5)
	}
	for _, p := range listsOfIndex(&x) {
		if x.N <= 64 && x.M <= 64 {
			*p = els(append(s.list(s.below(9)), zeros(s.below(3))...))
		}
	}
	return x
}

// wildFirst is one of any lists.
func (s *numbers) wildFirst() (p rounds.First) {
	for _, l := range listsOf1(&p) {
		*l = els(append(s.list(s.below(40)), zeros(s.below(3))...))
	}
	return p
}

// isSize tells whether all are sizes of domains.
func isSize(l ...int) bool {
	return !slices.ContainsFunc(l, func(n int) bool { return !slices.Contains(powersOf2(), n) })
}

// unasked stands for what takes long to be told.
const unasked = api.Errno(-1)

// faultOfOne is what a first round is refused by, faultOfTwo a second one, and so on.
func faultOfOne(s pad.Shape, z, d []*big.Int) api.Errno {
	if !isSize(s.N, s.X, s.M) {
		return api.ErrSize
	}
	if len(z) != s.N || len(d) != 3+2*s.N {
		return api.ErrArg
	}
	for _, x := range slices.Concat(s.Rows[0], s.Rows[1]) {
		if uint64(x.Row) >= uint64(s.N) || uint64(x.Col) >= uint64(s.N) || numberOf(x.Val).Cmp(r) >= 0 {
			return api.ErrArg
		}
	}
	return api.OK
}

func faultOfTwo(x index.Index, p rounds.First, a *big.Int, e [3]*big.Int) api.Errno {
	switch {
	case !isSize(x.N, x.X, x.M):
		return api.ErrSize
	case v(x.N, a).Sign() == 0:
		return api.ErrDraw
	case x.N > 64:
		return unasked
	case x.M > 64: // then its lists are empty
		x.M = 1
	}
	if _, is := indexedBy(x).secondOf(numbersOf(p), a, e); !is {
		return api.ErrCheck
	}
	return api.OK
}

func faultOfThree(x index.Index, a, b *big.Int) api.Errno {
	switch {
	case !isSize(x.N, x.X, x.M):
		return api.ErrSize
	case v(x.N, a).Sign() == 0 || v(x.N, b).Sign() == 0:
		return api.ErrDraw
	case x.N > 64 || x.M > 64:
		x.M = 1
	}
	if indexedBy(x).hits(a, b) {
		return api.ErrDraw
	}
	return api.OK
}

// R1, R4: nothing panics, and beside an error there is nothing.
func TestNothingPanics(t *testing.T) {
	s := numbers{state: 80}
	told := [3]map[api.Errno]int{{}, {}, {}}
	tell := func(i int, got, wanted api.Errno, nothing bool) {
		told[i][got]++
		if got != wanted && wanted != unasked || got != api.OK && !nothing {
			t.Errorf("%d: %v, not %v, or beside it something", i+1, got, wanted)
		}
	}
	for range 1500 {
		shape := s.wildShape()
		rounds.Draws(shape)
		z, d := s.wildList(shape.N), s.wildList(3+2*shape.N)
		p, one := rounds.One(shape, els(z), els(d))
		tell(0, one, faultOfOne(shape, z, d), sameLists(listsOf1(&p), listsOf1(&rounds.First{})))
		x, o := s.wildIndex(), s.wildFirst()
		a, b, e := s.edgeScalar(), s.edgeScalar(), s.triple()
		wanted := faultOfTwo(x, o, a, e)
		if s.below(2) == 0 && wanted == api.ErrCheck {
			o, wanted = evened(indexedBy(x), o, a, e), api.OK
		}
		q, two := rounds.Two(x, o, el(a), three(e))
		tell(1, two, wanted, sameLists(listsOf2(&q), listsOf2(&rounds.Second{})))
		r, fault := rounds.Three(x, el(a), three(e), el(b))
		tell(2, fault, faultOfThree(x, a, b), sameLists(listsOf3(&r), listsOf3(&rounds.Third{})))
	}
	for i, all := range [][]api.Errno{{api.OK, api.ErrSize, api.ErrArg}, {api.OK, api.ErrSize, api.ErrDraw, api.ErrCheck}, {api.OK, api.ErrSize, api.ErrDraw}} {
		for _, e := range all {
			if told[i][e] < 100 || len(told[i]) != len(all) {
				t.Errorf("%d: too few: %v", i+1, told[i])
			}
		}
	}
}

// Of what is greater than any domain: sizes of the greatest numbers, and long lists.
func TestNothingPanicsOfGreatOnes(t *testing.T) {
	s := numbers{state: 81}
	for _, n := range []int{math.MaxInt, math.MinInt, 1 << 62} {
		shape := pad.Shape{N: n, X: n, M: n, Inputs: n, Places: []int{n}}
		rounds.Draws(shape)
		refuseOne(t, fmt.Sprint(n), shape, nil, nil, api.ErrSize)
		x := index.Index{N: n, X: n, M: n}
		refuseTwo(t, fmt.Sprint(n), x, rounds.First{}, whole(2), s.triple(), api.ErrSize)
		refuseThree(t, fmt.Sprint(n), x, whole(2), s.triple(), whole(3), api.ErrSize)
	}
	long := els(slices.Repeat(s.list(1<<8), 1<<4))
	x, p := index.Index{N: 4, X: 2, M: 4}, rounds.First{}
	for _, l := range slices.Concat(listsOfIndex(&x), listsOf1(&p)) {
		*l = long
	}
	a, b := s.off(4), s.off(4)
	refuseTwo(t, "long lists", x, p, a, s.triple(), api.ErrCheck)
	q := threeOf(t, x, a, s.triple(), b)
	if len(q.H) == 0 || q.H[len(q.H)-1] == (fr.El{}) {
		t.Errorf("H2 of long lists has %d scalars", len(q.H))
	}
}

// answers are what all calls tell, as texts.
func answers(x tale) (l []string) {
	add := func(what ...any) { l = append(l, fmt.Sprint(what...)) }
	add(rounds.Draws(x.s))
	add(rounds.One(x.s, els(x.z), els(x.d)))
	add(rounds.Two(x.x, x.p, el(x.a), three(x.e)))
	add(rounds.Two(x.x, x.p, el(x.b), three(x.e)))
	add(rounds.Three(x.x, el(x.a), three(x.e), el(x.b)))
	add(rounds.Three(x.x, el(x.b), three(x.e), el(x.a)))
	return l
}

// wild is any tale.
func (s *numbers) wild() tale {
	shape := s.wildShape()
	return tale{shape, s.wildIndex(), s.wildList(shape.N), s.wildList(3 + 2*shape.N), s.wildFirst(), s.edgeScalar(), s.triple(), s.edgeScalar()}
}

// R2
func TestAnswersHangOnArgumentsAlone(t *testing.T) {
	s := numbers{state: 82}
	few, more := s.good(t), s.wild()
	first, second := answers(few), answers(more)
	for range 20 {
		answers(s.wild())
		if !slices.Equal(answers(few), first) || !slices.Equal(answers(more), second) {
			t.Error("asked again, it is another one")
		}
	}
}

// What may be asked may be asked by many at once, of the same lists.
func TestManyAtOnce(t *testing.T) {
	s := numbers{state: 83}
	x := s.good(t)
	wanted := answers(x)
	var workers sync.WaitGroup
	for range 8 {
		workers.Go(func() {
			for range 5 {
				if !slices.Equal(answers(x), wanted) {
					t.Error("at once, it is another one")
				}
			}
		})
	}
	workers.Wait()
}

// What lies behind the ends of lists: nobody may touch it.
func room() []api.Entry {
	return []api.Entry{{Row: 5, Col: 6, Val: bytesOf(whole(7))}, {}, {Row: math.MaxUint32, Val: bytesOf(r)}}
}

func roomEl() []fr.El { return els(wholes(9, 0, -8, 7)) }

func roomPlaces() []int { return []int{1, 0, -1, math.MaxInt} }

// roomy is a list with room behind its end.
func roomy[T any](l, room []T) []T {
	long := slices.Concat(l, room)
	return long[:len(l)]
}

// untouched tells whether a list made by roomy is as it was, and its room too.
func untouched[T comparable](l, was, room []T) bool {
	return len(l) == len(was) && slices.Equal(l[:len(was)+len(room)], slices.Concat(was, room))
}

// spoil writes to all of a list, and to the room behind it.
func spoil[T any](l []T, x T) {
	for i := range l[:cap(l)] {
		l[:cap(l)][i] = x
	}
}

// R3: nothing is changed of what One is handed, be it refused or not.
func TestOneChangesNothing(t *testing.T) {
	s := numbers{state: 84}
	for i := range 600 {
		shape := s.wildShape()
		if i < 200 {
			shape = s.byHand(manySizes()[i%len(manySizes())])
		}
		z, d := els(s.wildList(shape.N)), els(s.wildList(3+2*shape.N))
		o, zs, ds := shape, roomy(z, roomEl()), roomy(d, roomEl())
		o.Places = roomy(shape.Places, roomPlaces())
		for k := range o.Rows {
			o.Rows[k] = roomy(shape.Rows[k], room())
		}
		got, e := rounds.One(o, zs, ds)
		wanted, fault := rounds.One(shape, z, d)
		if e != fault || !sameLists(listsOf1(&got), listsOf1(&wanted)) {
			t.Errorf("%d: with room behind it is another one: %v, %v", i, e, fault)
		}
		is := untouched(o.Places, shape.Places, roomPlaces()) && untouched(zs, z, roomEl()) && untouched(ds, d, roomEl())
		for k := range o.Rows {
			is = is && untouched(o.Rows[k], shape.Rows[k], room())
		}
		if !is {
			t.Errorf("%d: it was changed", i)
		}
	}
}

// R3: nor of what Two and Three are handed.
func TestTwoAndThreeChangeNothing(t *testing.T) {
	s := numbers{state: 85}
	for i := range 400 {
		x, p := s.wildIndex(), s.wildFirst()
		a, b, e := s.edgeScalar(), s.edgeScalar(), s.triple()
		if i%2 == 0 && isSize(x.N, x.M) && x.N <= 64 && v(x.N, a).Sign() != 0 {
			p = evened(indexedBy(x), p, a, e)
		}
		o, q := x, p
		lists := slices.Concat(listsOfIndex(&o), listsOf1(&q))
		for _, l := range lists {
			*l = roomy(*l, roomEl())
		}
		times := three(e)
		two, fault := rounds.Two(o, q, el(a), times)
		three2, fault3 := rounds.Three(o, el(a), times, el(b))
		wanted, e2 := rounds.Two(x, p, el(a), times)
		wanted3, e3 := rounds.Three(x, el(a), times, el(b))
		if fault != e2 || fault3 != e3 || !sameLists(listsOf2(&two), listsOf2(&wanted)) || !sameLists(listsOf3(&three2), listsOf3(&wanted3)) {
			t.Errorf("%d: with room behind it is another one: %v, %v; %v, %v", i, fault, e2, fault3, e3)
		}
		for j, l := range slices.Concat(listsOfIndex(&x), listsOf1(&p)) {
			if !untouched(*lists[j], *l, roomEl()) {
				t.Errorf("%d: the list %d was changed", i, j)
			}
		}
	}
}

// apart is a good tale of its own lists, of what One, Two and Three tell of it.
type apart struct {
	tale
	els1, els2 []fr.El // z and d
	one        rounds.First
	two        rounds.Second
	three      rounds.Third
}

// told are what the calls tell, all in their own memory.
func (x tale) told(t *testing.T) apart {
	t.Helper()
	cloneLists(listsOfIndex(&x.x))
	cloneLists(listsOf1(&x.p))
	for i := range x.s.Rows {
		x.s.Rows[i] = slices.Clone(x.s.Rows[i])
	}
	l := apart{tale: x, els1: els(x.z), els2: els(x.d)}
	var e [3]api.Errno
	l.one, e[0] = rounds.One(l.s, l.els1, l.els2)
	l.two, e[1] = rounds.Two(l.x, l.p, el(x.a), three(x.e))
	l.three, e[2] = rounds.Three(l.x, el(x.a), three(x.e), el(x.b))
	if e != [3]api.Errno{} {
		t.Fatal(e)
	}
	return l
}

// given are the lists that the calls were handed, out those that they told.
func (l *apart) given() []*[]fr.El {
	return slices.Concat([]*[]fr.El{&l.els1, &l.els2}, listsOfIndex(&l.x), listsOf1(&l.p))
}

func (l *apart) out() []*[]fr.El {
	return slices.Concat(listsOf1(&l.one), listsOf2(&l.two), listsOf3(&l.three))
}

// tales are some whose answers are short or long: an example, without draws too, one of
// which K and H are least, one by hand whose lists are what is told of them; and such that
// lists of one answer are alike.
func (s *numbers) tales(t *testing.T) []tale {
	t.Helper()
	first := s.good(t)
	second := s.good(t)
	second.d = zeros(19)
	second.p = oneOf(t, second.s, second.z, second.d)
	third := second
	third.e = [3]*big.Int{whole(0), whole(0), whole(0)}
	third.p = rounds.First{S: els(wholes(0, 3, 0, 5))}
	least := pad.Shape{N: 1, X: 1, M: 1, Rows: [3][]api.Entry{entries([3]int64{0, 0, 3}), entries([3]int64{0, 0, 5}), entries([3]int64{0, 0, 15})}}
	fourth := tale{least, indexOf(t, least), wholes(1), wholes(4, 5, 6, 7, 8), rounds.First{}, whole(7), s.triple(), whole(9)}
	fourth.p = oneOf(t, least, fourth.z, fourth.d)
	one := els(wholes(1))
	fifth := fourth
	fifth.x = index.Index{N: 1, X: 1, M: 1, Val: [3][]fr.El{one, one, one}}
	fifth.p = rounds.First{Z: one, A: one, B: one, S: nil}
	fifth.p = evened(indexedBy(fifth.x), fifth.p, fifth.a, fifth.e)
	sixth := tale{s: padded(t, square()), z: wholes(1, 1, 1, 1), d: zeros(11), a: whole(7), e: s.triple(), b: whole(9)}
	sixth.x = index.Index{N: 2, X: 2, M: 1, Val: [3][]fr.El{one, nil, nil}}
	sum, fault := sixth.x.Poly(three(sixth.e), el(sixth.a))
	if fault != api.OK {
		t.Fatal(fault)
	}
	sixth.p.S = els(added(wholes(0, 5), multiplied(backs(sum), vanishing(2))))
	alike := sixth.told(t)
	if p := alike.one; !slices.Equal(p.A, p.B) || !slices.Equal(p.Z, p.I) || !slices.Equal(alike.two.T, alike.two.H) {
		t.Error("they are not alike")
	}
	return []tale{first, second, third, fourth, fifth, sixth}
}

// R3: what is handed out shares nothing with what was handed in, nor with other answers,
// nor with each other, with the room behind its ends: what is written to one list shows in
// no other one, and is no later answer.
func TestAnswersAreApart(t *testing.T) {
	s := numbers{state: 86}
	for i, x := range s.tales(t) {
		wanted := x.told(t)
		for j := range wanted.out() {
			got, again := x.told(t), x.told(t)
			list := *got.out()[j]
			_ = append(list, slices.Repeat(els(wholes(9)), 20)...)
			spoil(list, fr.Of(99))
			*got.out()[j] = *wanted.out()[j]
			if !sameLists(got.out(), wanted.out()) || !sameLists(got.given(), wanted.given()) || !sameLists(again.out(), wanted.out()) {
				t.Errorf("%d: the list %d shares room", i, j)
			}
		}
		for j := range wanted.given() {
			got := x.told(t)
			spoil(*got.given()[j], fr.Of(98))
			if !sameLists(got.out(), wanted.out()) {
				t.Errorf("%d: an answer shows what was written to the list %d that was handed in", i, j)
			}
		}
		got := x.told(t)
		for j := range got.s.Rows {
			spoil(got.s.Rows[j], api.Entry{Row: 9, Col: 9})
		}
		if !sameLists(got.out(), wanted.out()) {
			t.Errorf("%d: an answer shows what was written to the Shape", i)
		}
	}
}

// The same call, asked twice of the same lists, tells two that are apart.
func TestAskedTwice(t *testing.T) {
	s := numbers{state: 87}
	for i, x := range s.tales(t) {
		l := x.told(t)
		wanted := x.told(t)
		again := apart{tale: l.tale}
		again.one, _ = rounds.One(l.s, l.els1, l.els2)
		again.two, _ = rounds.Two(l.x, l.p, el(x.a), three(x.e))
		again.three, _ = rounds.Three(l.x, el(x.a), three(x.e), el(x.b))
		for _, p := range l.out() {
			spoil(*p, fr.Of(97))
		}
		if !sameLists(again.out(), wanted.out()) || !sameLists(l.given(), wanted.given()) {
			t.Errorf("%d: it shows what was written to another answer", i)
		}
	}
}

// One list in several places is as good as several.
func TestListsThatShareMemory(t *testing.T) {
	s := numbers{state: 88}
	l := els(s.list(19))
	shape := padded(t, cube())
	shared, e := rounds.One(shape, l[:8], l)
	alone, fault := rounds.One(shape, slices.Clone(l[:8]), slices.Clone(l))
	if e != fault || !sameLists(listsOf1(&shared), listsOf1(&alone)) {
		t.Errorf("One: %v, %v", e, fault)
	}
	x := index.Index{N: 4, X: 2, M: 4}
	for i, p := range listsOfIndex(&x) {
		*p = l[i%3 : 4+i]
	}
	p := rounds.First{Z: l, I: l, W: l, A: l[:5], B: l[2:9], S: l[1:]}
	a, b, times := s.off(4), s.off(4), s.triple()
	p = evened(indexedBy(x), p, a, times)
	o, q := x, p
	cloneLists(listsOfIndex(&o))
	cloneLists(listsOf1(&q))
	first, second := twoOf(t, x, p, a, times), twoOf(t, o, q, a, times)
	third, fourth := threeOf(t, x, a, times, b), threeOf(t, o, a, times, b)
	if !sameLists(listsOf2(&first), listsOf2(&second)) || !sameLists(listsOf3(&third), listsOf3(&fourth)) {
		t.Error("of lists that share memory it is another one")
	}
}

// R6
func TestEmptyListsMayBeNil(t *testing.T) {
	s := numbers{state: 89}
	x := s.good(t)
	for i := range 9 {
		with, without := x, x
		*listsOfIndex(&with.x)[i], *listsOfIndex(&without.x)[i] = []fr.El{}, nil
		if !slices.Equal(answers(with), answers(without)) {
			t.Errorf("the Index's list %d: nil and empty are not the same", i)
		}
		wantThree(t, fmt.Sprint(i), without.x, indexedBy(without.x), x.a, x.e, x.b)
	}
	for i := range 6 {
		with, without := x, x
		*listsOf1(&with.p)[i], *listsOf1(&without.p)[i] = []fr.El{}, nil
		if !slices.Equal(answers(with), answers(without)) {
			t.Errorf("the First's list %d: nil and empty are not the same", i)
		}
		wantTwo(t, fmt.Sprint(i), without.x, indexedBy(without.x), without.p, x.a, x.e)
	}
	for i := range 3 {
		with, without := x, x
		with.s.Rows[i], without.s.Rows[i] = []api.Entry{}, nil
		if !slices.Equal(answers(with), answers(without)) {
			t.Errorf("the Shape's matrix %d: nil and empty are not the same", i)
		}
	}
	refuseOne(t, "empty", x.s, []fr.El{}, []fr.El{}, api.ErrArg)
	refuseOne(t, "nil", x.s, nil, nil, api.ErrArg)
}

// R8: what is refused for its sizes, its lists or its draws takes no room that goes by
// them, however great they were.
func TestRefusedLeavesNoRoom(t *testing.T) {
	const n = api.MaxDomain
	s := numbers{state: 90}
	z, d := make([]fr.El, n), make([]fr.El, 3+2*n)
	most := make([]api.Entry, n)
	shape := pad.Shape{N: n, X: n, M: n, Rows: [3][]api.Entry{most, most, most}}
	p := rounds.First{Z: z, I: z, W: z, A: z, B: z, S: d}
	var before, after runtime.MemStats
	runtime.ReadMemStats(&before)
	for range 50 {
		for _, size := range []int{0, 3, n - 1, 2 * n, math.MaxInt, math.MinInt} {
			for i := range 3 {
				x, o := index.Index{N: n, X: n, M: n}, shape
				*[]*int{&x.N, &x.X, &x.M}[i] = size
				*[]*int{&o.N, &o.X, &o.M}[i] = size
				refuseOne(t, "size", o, z, d, api.ErrSize)
				refuseTwo(t, "size", x, p, whole(2), s.triple(), api.ErrSize)
				refuseThree(t, "size", x, whole(2), s.triple(), whole(3), api.ErrSize)
			}
		}
		refuseOne(t, "z", shape, z[1:], d, api.ErrArg)
		refuseOne(t, "d", shape, z, d[1:], api.ErrArg)
		x := index.Index{N: n, X: n, M: n}
		refuseTwo(t, "a", x, p, whole(1), s.triple(), api.ErrDraw)
		refuseThree(t, "a", x, whole(1), s.triple(), whole(3), api.ErrDraw)
		refuseThree(t, "b", x, whole(2), s.triple(), whole(-1), api.ErrDraw)
	}
	runtime.ReadMemStats(&after)
	if more := after.TotalAlloc - before.TotalAlloc; more > 16<<20 {
		t.Errorf("refused calls took %d bytes", more)
	}
}
