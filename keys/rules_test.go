package keys_test

import (
	"bytes"
	"fmt"
	"math"
	"math/big"
	"runtime"
	"slices"
	"sync"
	"testing"

	"marlinspike/api"
	"marlinspike/decide"
	"marlinspike/fq"
	"marlinspike/fr"
	"marlinspike/group"
	"marlinspike/index"
	"marlinspike/keys"
	"marlinspike/srs"
)

// R1 to R8 for this layer's calls.

// every asks all calls of a key.
func every(k keys.Key) {
	k.Check()
	k.Setup()
	k.Bytes()
	keys.Need(k.Z)
}

// R1
func TestNothingPanics(t *testing.T) {
	ps, qs := strange()
	s := numbers{state: 20}
	edges := append(noSizes(), powersOf2()...)
	pick := func() int { return edges[s.below(len(edges))] }
	every(keys.Key{})
	every(*new(keys.Key))
	for i := range 3000 {
		k := five{pick(), pick(), pick(), pick(), pick()}.key()
		if i%2 == 0 {
			k = goods()[i%len(goods())].key()
		}
		k.Blind, k.Tau = ps[s.below(len(ps))], qs[s.below(len(qs))]
		for _, p := range commitments(&k) {
			*p = ps[s.below(len(ps))]
		}
		every(k)
	}
	setups := []*srs.SRS{nil, {}, new(srs.SRS), made(t, whole(2), whole(3), 12), {Powers: make([]group.G1, 1<<17), Blinds: make([]group.G1, 1<<17)}, {Powers: ps, Blinds: slices.Concat(ps[30:], ps[:30]), Tau: qs[20]}, {Powers: ps[:13], Blinds: ps[13:26], Tau: qs[63]}}
	for n := range 14 {
		setups = append(setups, &srs.SRS{Powers: ps[:n], Blinds: ps[20 : 20+n]}, &srs.SRS{Powers: ps[:n], Blinds: ps[:13-n]})
	}
	l := [][]fr.El{nil, {}, make([]fr.El, 3), make([]fr.El, 1<<17), slices.Repeat(els(wholes(1)), 13), slices.Repeat(els(wholes(-1)), 14), els(s.bigs(2)), els(s.bigs(70))}
	together(len(setups), func(i int) {
		s := numbers{state: uint64(100 + i)}
		for j := range 300 {
			x := index.Index{N: edges[s.below(len(edges))], X: edges[s.below(len(edges))], M: edges[s.below(len(edges))]}
			if j%3 > 0 {
				x = index.Index{N: 4, X: 2, M: 2}
			}
			for _, all := range []*[3][]fr.El{&x.Row, &x.Col, &x.Val} {
				for n := range all {
					all[n] = l[s.below(len(l)-1+j%2)]
				}
			}
			for _, inputs := range []int{1, 2, s.below(5) - 1, edges[s.below(len(edges))], math.MinInt, math.MaxInt} {
				keys.Make(setups[i], x, inputs)
			}
		}
	})
}

// R1: bytes of any kind.
func TestNoBytesPanic(t *testing.T) {
	s := numbers{state: 21}
	right := tales()[0].text()
	for length := range 1300 {
		b := make([]byte, length)
		keys.Get(b)
		for i := range b {
			b[i] = byte(s.word())
		}
		keys.Get(b)
		copy(b, right[:16])
		keys.Get(b)
	}
	for range 300 {
		b := slices.Clone(right)
		for range 1 + s.below(4) {
			b[s.below(len(b))] = byte(s.word())
		}
		keys.Get(b)
	}
	keys.Get(nil)
	keys.Get(make([]byte, 1<<22))
	keys.Get(bytes.Repeat([]byte{128}, 592))
}

// answers are what all calls tell of a circuit and two scalars, as texts.
func answers(t *testing.T, c api.Circuit, tau, g *big.Int, d int) (l []string) {
	t.Helper()
	add := func(what ...any) { l = append(l, fmt.Sprint(what...)) }
	s, p := made(t, tau, g, d), padded(t, c)
	x := indexed(t, p)
	for inputs := range p.X + 2 {
		k, e := keys.Make(s, x, inputs)
		b, wrong := k.Bytes()
		add(k, e, b, wrong, k.Check(), *k.Setup(), keys.Need(k.Z))
		back, wrong := keys.Get(b)
		add(back, wrong)
		for i := range 20 {
			_, e := keys.Get(spoilt(b, min(i*29, len(b)), []byte{byte(40 * i)}))
			add(e)
		}
	}
	add(keys.Make(trimmed(t, s, d-1), x, p.Inputs))
	return l
}

// R2
func TestAnswersHangOnArgumentsAlone(t *testing.T) {
	first := answers(t, square(), whole(2), whole(3), 12)
	second := answers(t, cube(), minus(5), whole(7), 25)
	for range 2 {
		keys.Make(nil, index.Index{}, 0)
		keys.Get([]byte{0, 1, 2})
		keys.Get(tales()[3].text())
		every(tales()[4].key())
		if !slices.Equal(answers(t, square(), whole(2), whole(3), 12), first) || !slices.Equal(answers(t, cube(), minus(5), whole(7), 25), second) {
			t.Error("asked again, it is another one")
		}
	}
}

// What may be asked may be asked by many at once, of the same lists.
func TestManyAtOnce(t *testing.T) {
	wanted := answers(t, square(), whole(2), whole(3), 12)
	s, x := made(t, whole(5), whole(6), 30), indexed(t, padded(t, cube()))
	first, e := keys.Make(s, x, 2)
	if e != api.OK {
		t.Fatal(e)
	}
	b := textOf(t, "first", first)
	var workers sync.WaitGroup
	for range 8 {
		workers.Go(func() {
			if !slices.Equal(answers(t, square(), whole(2), whole(3), 12), wanted) {
				t.Error("at once, it is another one")
			}
			for range 5 {
				k, e := keys.Make(s, x, 2)
				back, wrong := keys.Get(b)
				again, none := first.Bytes()
				if e != api.OK || wrong != api.OK || none != api.OK || k != first || !bytes.Equal(again, b) {
					t.Errorf("at once: %v, %v, %v", e, wrong, none)
				}
				wantSame(t, "at once", back, first)
			}
		})
	}
	workers.Wait()
}

// What is written to a setup, to an Index and to a key counts.
func TestWhatIsWrittenCounts(t *testing.T) {
	s, f, l := made(t, whole(2), whole(3), 12), five{4, 2, 2, 1, 12}, anyLists(9, 2)
	x, o := byHand(f, l), expsOf(whole(2), whole(3), 12)
	wantMade := func(what string) {
		t.Helper()
		k, e := keys.Make(s, x, f.inputs)
		if e != api.OK {
			t.Errorf("%s: %v", what, e)
		}
		want(t, what, k, taleOfLists(f, l, o))
	}
	wantMade("as it was")
	s.Powers[1], o.powers[1] = gen1, whole(1)
	wantMade("another power")
	s.Blinds[0], o.blinds[0] = gen1, whole(1)
	wantMade("another blind")
	s.Tau, o.tau = gen2, whole(1)
	wantMade("another Tau")
	for i := range 9 {
		l[i][1] = whole(int64(70 + i))
		[]*[3][]fr.El{&x.Row, &x.Col, &x.Val}[i/3][i%3][1] = el(l[i][1])
		wantMade(fmt.Sprint("another scalar of the list ", i))
	}
	x.N, f.n = 2, 2
	x.X, f.x = 1, 1
	wantMade("another N and X")
	s.Powers, s.Blinds = s.Powers[:12], s.Blinds[:12]
	refuseMake(t, "a power and a blind less", s, x, 1, api.ErrDegree)
	k := tales()[0].key()
	wanted := tales()[0]
	k.D, wanted.d = 99, 99
	k.Col[1], wanted.c[4] = gen1, whole(1)
	want(t, "a key", k, wanted)
	k.Z.M = 3
	wantNoBytes(t, "no M", k, api.ErrSize)
}

// room is what lies behind the ends of lists: nobody may touch it. roomEl is the same of
// scalars.
func room() []group.G1 { return []group.G1{gen1, {}, {X: fq.Of(5), Y: fq.Of(6), Z: fq.Of(7)}} }

func roomEl() []fr.El { return els(wholes(9, 0, -8, 7)) }

// roomy is a list with room behind its end.
func roomy[T any](l, room []T) []T {
	long := slices.Concat(l, room)
	return long[:len(l)]
}

// untouched tells whether a list made by roomy is as it was, and its room too.
func untouched[T comparable](l, was, room []T) bool {
	return len(l) == len(was) && slices.Equal(l[:len(was)+len(room)], slices.Concat(was, room))
}

// R3
func TestNothingIsChanged(t *testing.T) {
	long := made(t, whole(2), whole(3), 30)
	cut := func(powers, blinds int) *srs.SRS {
		return &srs.SRS{Powers: long.Powers[:powers], Blinds: long.Blinds[:blinds], Tau: long.Tau}
	}
	setups := []*srs.SRS{{}, long, otherSetup(long, 2), loose(13).setup(), cut(13, 13), cut(12, 12), cut(13, 12), cut(0, 13), cut(31, 0)}
	f := five{4, 2, 2, 1, 12}
	indices := []index.Index{{}, indexed(t, padded(t, square())), indexed(t, padded(t, cube())), byHand(f, anyLists(3, 13)), byHand(f, anyLists(3, 14)), byHand(f, [9][]*big.Int{3: wholes(1, 2, 0, 0, 0)})}
	for i, s := range setups {
		for j, x := range indices {
			o := &srs.SRS{Powers: roomy(s.Powers, room()), Blinds: roomy(s.Blinds, room()), Tau: s.Tau}
			y := x
			for n := range 9 {
				all := []*[3][]fr.El{&y.Row, &y.Col, &y.Val}[n/3]
				all[n%3] = roomy(all[n%3], roomEl())
			}
			for inputs := range 4 {
				keys.Make(o, y, inputs)
			}
			if !untouched(o.Powers, s.Powers, room()) || !untouched(o.Blinds, s.Blinds, room()) || o.Tau != s.Tau {
				t.Errorf("the setup %d was changed by the index %d", i, j)
			}
			for n := range 3 {
				if !untouched(y.Row[n], x.Row[n], roomEl()) || !untouched(y.Col[n], x.Col[n], roomEl()) || !untouched(y.Val[n], x.Val[n], roomEl()) {
					t.Errorf("the index %d was changed by the setup %d", j, i)
				}
			}
		}
	}
}

func TestBytesAreNotChanged(t *testing.T) {
	x := tales()[0]
	right := x.text()
	l := [][]byte{right, nil, {1}, right[:16], right[:591], append(slices.Clone(right), 1), counted(x, x.but(0, 3)), counted(x, x.but(4, 3))}
	for i, at := range pointPlaces() {
		l = append(l, spoilt(right, at, wrongsAt(i)[0].text))
	}
	for i, b := range l {
		for _, filled := range []byte{0, 128, 255} {
			behind := bytes.Repeat([]byte{filled}, 700)
			o := slices.Concat(b, behind)
			k, e := keys.Get(o[:len(b)])
			if !bytes.Equal(o, slices.Concat(b, behind)) {
				t.Errorf("the bytes %d were changed", i)
			}
			if (e == api.OK) != (i == 0) {
				t.Errorf("the bytes %d, with room behind: %v", i, e)
			}
			for j := range o {
				o[j] ^= 0xa5
			}
			if i == 0 {
				want(t, "behind what was written to the bytes", k, x)
			}
		}
	}
}

// R3: nothing that was handed in is kept.
func TestKeysAreApart(t *testing.T) {
	s, x := made(t, whole(2), whole(3), 24), indexed(t, padded(t, cube()))
	k, e := keys.Make(s, x, 2)
	if e != api.OK {
		t.Fatal(e)
	}
	wanted := taleOf(padded(t, cube()), whole(2), whole(3), 24)
	want(t, "as it is", k, wanted)
	spoil(s.Powers)
	spoil(s.Blinds)
	s.Tau = gen2
	for i := range 3 {
		clear(x.Row[i])
		clear(x.Col[i])
		clear(x.Val[i])
	}
	want(t, "behind what was written to the setup and the index", k, wanted)
}

// spoil writes to all points of a list, and to the room behind it.
func spoil(l []group.G1) {
	for i := range l[:cap(l)] {
		l[:cap(l)][i] = group.G1{X: fq.Of(9), Y: fq.Of(8), Z: fq.Of(7)}
	}
}

// R3: what Setup and Bytes answer is one's own to write to, spare room too.
func TestAnswersAreOnesOwn(t *testing.T) {
	x := tales()[3]
	k := x.key()
	first, second := k.Setup(), k.Setup()
	spoil(first.Powers)
	wantSame1(t, "the blind, behind what was written to the powers", first.Blinds[0], k.Blind)
	spoil(first.Blinds)
	first.Tau = gen2
	wantSame1(t, "another one's power", second.Powers[0], gen1)
	wantSame1(t, "another one's blind", second.Blinds[0], k.Blind)
	wantSame2(t, "another one's Tau", second.Tau, k.Tau)
	spoil(second.Blinds)
	wantSame1(t, "the power, behind what was written to the blinds", second.Powers[0], gen1)
	wantSetup(t, "told again", k)
	want(t, "the key, behind what was written to its setup", k, x)
	third := k.Setup()
	k.Blind, k.Tau = gen1, gen2
	wantSame1(t, "the blind, behind what was written to the key", third.Blinds[0], points1.tell(x.blind))
	wantSame2(t, "Tau, behind what was written to the key", third.Tau, points2.tell(x.tau))
	k = x.key()
	b, again := textOf(t, "first", k), textOf(t, "second", k)
	for i := range b[:cap(b)] {
		b[:cap(b)][i] = 9
	}
	if !bytes.Equal(again, x.text()) || !bytes.Equal(textOf(t, "third", k), x.text()) {
		t.Error("what was written to bytes shows in others")
	}
	want(t, "the key, behind what was written to its bytes", k, x)
	k.Val[2] = gen1
	if !bytes.Equal(again, x.text()) {
		t.Error("what was written to the key shows in its bytes")
	}
}

// R4: beside an error all else is zero, wherever it comes up.
func TestZeroBesideErrors(t *testing.T) {
	s := made(t, whole(2), whole(3), 12)
	f := five{4, 2, 2, 1, 12}
	for i := range 9 { // the last of nine commitments may be the first that is refused
		l := anyLists(7, 2)
		l[i] = anyLists(7, 20)[0]
		refuseMake(t, fmt.Sprint("the list ", i), s, byHand(f, l), 1, api.ErrDegree)
	}
	right := tales()[0].text()
	for i, at := range pointPlaces() { // and so may the last of eleven points
		for _, w := range wrongsAt(i) {
			if k, e := keys.Get(spoilt(right, at, w.text)); e == api.OK || k != (keys.Key{}) {
				t.Errorf("the point %d, %s: %+v, %v", i, w.what, k, e)
			}
		}
	}
	for _, y := range []five{{}, f.but(3, 0), f.but(4, 11)} {
		k := y.key()
		k.Blind, k.Tau, k.Row[0] = gen1, gen2, gen1
		if b, e := k.Bytes(); e == api.OK || len(b) > 0 {
			t.Errorf("%+v: %x, %v", y, b, e)
		}
	}
}

// R6
func TestEmptyListsMayBeNil(t *testing.T) {
	refuse(t, "no bytes", []byte{}, api.ErrShort)
	refuse(t, "nil", nil, api.ErrShort)
	s, f := made(t, whole(2), whole(3), 12), five{4, 2, 2, 2, 12}
	wanted := taleOfLists(f, [9][]*big.Int{}, expsOf(whole(2), whole(3), 12))
	var empty [3][]fr.El
	for i := range empty {
		empty[i] = []fr.El{}
	}
	for i, x := range []index.Index{{N: 4, X: 2, M: 2}, {N: 4, X: 2, M: 2, Row: empty, Col: empty, Val: empty}, {N: 4, X: 2, M: 2, Col: empty}} {
		k, e := keys.Make(s, x, 2)
		if e != api.OK {
			t.Error(e)
		}
		want(t, fmt.Sprint("empty lists ", i), k, wanted)
	}
	x := index.Index{N: 4, X: 2, M: 2}
	for i, o := range []*srs.SRS{{}, {Powers: []group.G1{}}, {Blinds: []group.G1{}}, {Powers: []group.G1{}, Blinds: []group.G1{}}} {
		refuseMake(t, fmt.Sprint("the empty setup ", i), o, x, 2, api.ErrDegree)
		refuseMake(t, fmt.Sprint("the empty setup ", i), o, x, 0, api.ErrArg)
		refuseMake(t, fmt.Sprint("the empty setup ", i), o, index.Index{}, 2, api.ErrSize)
	}
}

// R7: sizes that no int is great enough for twice, or six times, are told apart from small
// ones.
func TestNumbersAreExact(t *testing.T) {
	for _, z := range []decide.Sizes{{N: math.MinInt, X: 2, M: -1}, {N: 4, X: 2, M: math.MinInt + 4}, {N: 1<<63 - 1<<62, X: 1, M: 2}, {N: 4, X: 2, M: math.MaxInt/6 + 3}} {
		wantNeed(t, z, nearest(needOf(z)))
		for _, d := range []int{12, api.MaxPower, math.MaxInt, math.MinInt} {
			f := five{z.N, z.X, z.M, 1, d}
			wantCheck(t, "great sizes", f, api.ErrSize)
			wantNoBytes(t, "great sizes", f.key(), api.ErrSize)
		}
		refuseMake(t, "great sizes", ones(whole(3), 12), index.Index{N: z.N, X: z.X, M: z.M}, 1, api.ErrSize)
	}
}

// R8: what is refused takes no room, however much there was of it.
func TestRefusedLeavesNoRoom(t *testing.T) {
	ps, scalars := make([]group.G1, 1<<17), slices.Repeat(els(wholes(1)), 1<<17)
	great := &srs.SRS{Powers: ps, Blinds: ps}
	uneven, short, right := &srs.SRS{Powers: ps, Blinds: ps[1:]}, &srs.SRS{Powers: ps[:12], Blinds: ps[:12]}, &srs.SRS{Powers: ps[:13], Blinds: ps[:13]}
	x := index.Index{N: 4, X: 2, M: 2}
	for i := range 3 {
		x.Row[i], x.Col[i], x.Val[i] = scalars, scalars, scalars
	}
	wide := x
	wide.N = 3
	b := make([]byte, 1<<22)
	counts := spoilt(b[:592], 0, tales()[0].five.but(4, 11).text())
	k := tales()[0].key()
	k.D = 11
	var before, after runtime.MemStats
	runtime.ReadMemStats(&before)
	for range 100 {
		keys.Make(nil, x, 2)
		keys.Make(great, x, 2)
		keys.Make(uneven, x, 2)
		keys.Make(short, x, 2)
		keys.Make(right, x, 3)
		keys.Make(right, x, 2)
		keys.Make(right, wide, 2)
		keys.Get(b)
		keys.Get(b[:591])
		keys.Get(b[:592])
		keys.Get(counts)
		k.Bytes()
	}
	runtime.ReadMemStats(&after)
	if more := after.TotalAlloc - before.TotalAlloc; more > 1<<21 {
		t.Errorf("refused calls took %d bytes", more)
	}
}
