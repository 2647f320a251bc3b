package proof_test

import (
	"bytes"
	"fmt"
	"math/big"
	"runtime"
	"slices"
	"sync"
	"testing"

	"marlinspike/api"
	"marlinspike/decide"
	"marlinspike/fq"
	"marlinspike/fr"
	"marlinspike/group"
	"marlinspike/proof"
)

// R1 to R8 for this layer's calls.

// R1
func TestNothingPanics(t *testing.T) {
	ps := strange()
	s := numbers{state: 20}
	proof.Proof{}.Bytes()
	for range 500 {
		p := tales()[0].proof()
		for _, at := range pointsOf(&p) {
			*at = ps[s.below(len(ps))]
		}
		if b := p.Bytes(); len(b) != 1232 {
			t.Errorf("%d bytes", len(b))
		}
	}
	for n := range ps {
		if b := proof.Points(ps[:n]...); len(b) != 48*n {
			t.Errorf("%d points: %d bytes", n, len(b))
		}
	}
	if b := proof.Points(make([]group.G1, 1<<15)...); len(b) != 48<<15 {
		t.Errorf("many points: %d bytes", len(b))
	}
	if b := proof.Scalars(make([]fr.El, 1<<18)...); len(b) != 32<<18 {
		t.Errorf("many scalars: %d bytes", len(b))
	}
	if len(proof.Values(decide.Values{})) != 18 {
		t.Error("not 18 values")
	}
}

// R1: bytes of any kind.
func TestNoBytesPanic(t *testing.T) {
	s := numbers{state: 21}
	right := tales()[6].text()
	for length := range 2600 {
		b := make([]byte, length)
		proof.Get(b)
		for i := range b {
			b[i] = byte(s.word())
		}
		proof.Get(b)
		copy(b, right[:96])
		proof.Get(b)
	}
	together(1000, func(i int) {
		s := numbers{state: uint64(1000 + i)}
		b := slices.Clone(right)
		for range 1 + s.below(4) {
			b[s.below(len(b))] = byte(s.word())
		}
		if p, e := proof.Get(b); e != api.OK && p != (proof.Proof{}) {
			t.Errorf("%+v beside %v", p, e)
		}
	})
	proof.Get(nil)
	proof.Get(make([]byte, 1<<22))
	for n := range 256 {
		proof.Get(bytes.Repeat([]byte{byte(n)}, 1232))
	}
}

// A call behind one that was refused is none the worse for it.
func TestRefusedLeavesNothing(t *testing.T) {
	x := tales()[6]
	right := x.text()
	l := parts()
	together(len(l), func(i int) {
		for _, w := range l[i].wrongs {
			refuse(t, l[i].what+", "+w.what, spoilt(right, l[i].at, w.text), w.e)
		}
		want(t, "behind "+l[i].what, got(t, "behind "+l[i].what, right), x)
	})
}

// answers are what all calls tell of a tale, as texts.
func answers(x tale) (l []string) {
	add := func(what ...any) { l = append(l, fmt.Sprint(what...)) }
	p := x.proof()
	b := p.Bytes()
	add(b)
	back, e := proof.Get(b)
	add(back, e, proof.Values(back.V), proof.Points(back.W, back.A, back.Wg), proof.Scalars(back.Blind, back.V.W))
	for i, at := range pointPlaces() {
		_, e := proof.Get(spoilt(b, at, wrongPoints()[i].text))
		add(e)
	}
	for i, at := range scalarPlaces() {
		_, e := proof.Get(spoilt(b, at, wrongScalars()[i%8].text))
		add(e)
	}
	for _, n := range []int{0, 1, 1231} {
		_, e := proof.Get(b[:n])
		add(e)
	}
	return l
}

// R2
func TestAnswersHangOnArgumentsAlone(t *testing.T) {
	first, second := answers(one(1)), answers(tales()[7])
	for range 2 {
		proof.Get(nil)
		proof.Get(spoilt(one(1).text(), 480, wrongPoints()[16].text))
		proof.Proof{}.Bytes()
		proof.Points(orderSix())
		if !slices.Equal(answers(one(1)), first) || !slices.Equal(answers(tales()[7]), second) {
			t.Error("asked again, it is another one")
		}
	}
}

// What may be asked may be asked by many at once, of the same lists.
func TestManyAtOnce(t *testing.T) {
	x := tales()[7]
	wanted, b, p := answers(x), x.text(), x.proof()
	bad := spoilt(b, 1104, wrongScalars()[0].text)
	ks := lists()[20]
	l, m := pointsBy(ks), els(ks)
	var workers sync.WaitGroup
	for range 8 {
		workers.Go(func() {
			if !slices.Equal(answers(x), wanted) {
				t.Error("at once, it is another one")
			}
			for range 3 {
				wantSame(t, "at once", got(t, "at once", b), p)
				refuse(t, "at once", bad, api.ErrField)
				wantBytes(t, "at once", p.Bytes(), b)
				wantBytes(t, "at once", proof.Points(l...), textOfPoints(ks))
				wantBytes(t, "at once", proof.Scalars(m...), textOfScalars(ks))
			}
		})
	}
	workers.Wait()
}

// What is written to a proof counts, part by part.
func TestWhatIsWrittenCounts(t *testing.T) {
	x := one(1)
	p := x.proof()
	for i, at := range pointsOf(&p) {
		x.c[i] = whole(int64(70 + i))
		*at = points1.tell(x.c[i])
		wantBytes(t, fmt.Sprint("another point ", i), p.Bytes(), x.text())
	}
	for i, at := range scalarsOf(&p) {
		x.s[i] = whole(int64(90 + i))
		*at = el(x.s[i])
		wantBytes(t, fmt.Sprint("another scalar ", i), p.Bytes(), x.text())
		wantList(t, fmt.Sprint("another scalar ", i), append(proof.Values(p.V), p.Blind), els(x.s[:]))
	}
}

// R3: a list's room behind its end plays no part, and stays as it is.
func TestListsAreNotChanged(t *testing.T) {
	room, roomEl := []group.G1{gen1, {}, {X: fq.Of(5), Y: fq.Of(6), Z: fq.Of(7)}}, els(wholes(9, 0, -8, 7))
	for i, ks := range lists() {
		l, m := pointsBy(ks), els(ks)
		for n := range l {
			l[n] = several(l[n])[n%ways]
		}
		long, longEl := slices.Concat(l, room), slices.Concat(m, roomEl)
		wantBytes(t, fmt.Sprint("the list ", i), proof.Points(long[:len(l)]...), textOfPoints(ks))
		wantBytes(t, fmt.Sprint("the list ", i), proof.Scalars(longEl[:len(m)]...), textOfScalars(ks))
		if !slices.Equal(long, slices.Concat(l, room)) || !slices.Equal(longEl, slices.Concat(m, roomEl)) {
			t.Errorf("the list %d was changed", i)
		}
	}
}

func TestBytesAreNotChanged(t *testing.T) {
	x := tales()[6]
	right := x.text()
	l := [][]byte{right, nil, {1}, right[:528], right[:1231], append(slices.Clone(right), 1)}
	for _, y := range parts() {
		l = append(l, spoilt(right, y.at, y.wrongs[0].text), spoilt(right, y.at, y.wrongs[len(y.wrongs)-1].text))
	}
	together(len(l), func(i int) {
		b := l[i]
		for _, filled := range []byte{0, 128, 255} {
			behind := bytes.Repeat([]byte{filled}, 1300)
			o := slices.Concat(b, behind)
			p, e := proof.Get(o[:len(b)])
			if !bytes.Equal(o, slices.Concat(b, behind)) {
				t.Errorf("the bytes %d were changed", i)
			}
			if (e == api.OK) != (i == 0) {
				t.Errorf("the bytes %d, with room behind: %v", i, e)
			}
			for j := range o {
				o[j] ^= 0xa5
			}
			if i == 0 {
				want(t, "behind what was written to the bytes", p, x)
			}
		}
	})
}

// R3: neither a proof nor its values are changed by its calls.
func TestProofsAreNotChanged(t *testing.T) {
	for i, x := range tales() {
		p := other(x.proof(), i)
		was := p
		p.Bytes()
		proof.Values(p.V)
		proof.Points(p.W, p.A)
		proof.Scalars(p.Blind)
		if p != was {
			t.Errorf("the proof %d was changed", i)
		}
	}
}

// all of a list, with the room behind it, is written to.
func overwrite[T any](l []T, x T) {
	for i := range l[:cap(l)] {
		l[:cap(l)][i] = x
	}
}

// R3: what the calls answer is one's own to write to, spare room too.
func TestAnswersAreOnesOwn(t *testing.T) {
	x := tales()[7]
	p, ks := x.proof(), lists()[20]
	l, m := pointsBy(ks), els(ks)
	for range 3 {
		first, second := p.Bytes(), p.Bytes()
		overwrite(first, 9)
		wantBytes(t, "other bytes", second, x.text())
		overwrite(second, 8)
		first, second = proof.Points(l...), proof.Points(l...)
		overwrite(first, 9)
		wantBytes(t, "other points' bytes", second, textOfPoints(ks))
		overwrite(second, 8)
		first, second = proof.Scalars(m...), proof.Scalars(m...)
		overwrite(first, 9)
		wantBytes(t, "other scalars' bytes", second, textOfScalars(ks))
		overwrite(second, 8)
		v, w := proof.Values(p.V), proof.Values(p.V)
		overwrite(v, fr.Of(9))
		wantList(t, "other values", w, els(x.s[:18]))
		overwrite(w, fr.Of(8))
	}
	want(t, "the proof, behind what was written to its bytes", p, x)
	b, v := p.Bytes(), proof.Values(p.V)
	points, scalars := proof.Points(l...), proof.Scalars(m...)
	for _, at := range pointsOf(&p) {
		*at = gen1
	}
	for _, at := range scalarsOf(&p) {
		*at = fr.Of(7)
	}
	overwrite(l, gen1)
	overwrite(m, fr.Of(7))
	wantBytes(t, "behind what was written to the proof", b, x.text())
	wantList(t, "behind what was written to the proof", v, els(x.s[:18]))
	wantBytes(t, "behind what was written to the points", points, textOfPoints(ks))
	wantBytes(t, "behind what was written to the scalars", scalars, textOfScalars(ks))
}

// R4: beside an error all else is zero, wherever it comes up: the last of 32 parts may be the
// first that is refused.
func TestZeroBesideErrors(t *testing.T) {
	right := tales()[0].text()
	for _, y := range parts() {
		for _, w := range []wrong{y.wrongs[0], y.wrongs[len(y.wrongs)-1]} {
			if p, e := proof.Get(spoilt(right, y.at, w.text)); e == api.OK || p != (proof.Proof{}) {
				t.Errorf("%s, %s: %+v, %v", y.what, w.what, p, e)
			}
		}
	}
	for _, n := range []int{0, 1231} {
		if p, e := proof.Get(right[:n]); e == api.OK || p != (proof.Proof{}) {
			t.Errorf("%d bytes: %+v, %v", n, p, e)
		}
	}
}

// R6
func TestEmptyListsMayBeNil(t *testing.T) {
	refuse(t, "no bytes", []byte{}, api.ErrShort)
	refuse(t, "nil", nil, api.ErrShort)
	var none []group.G1
	var noneEl []fr.El
	for i, b := range [][]byte{proof.Points(none...), proof.Points(make([]group.G1, 0, 5)...), proof.Scalars(noneEl...), proof.Scalars(make([]fr.El, 0, 5)...)} {
		if len(b) != 0 {
			t.Errorf("%d: %x", i, b)
		}
	}
}

// R7: numbers have the greatest byte first, and all of their bytes.
func TestNumbersAreExact(t *testing.T) {
	k := new(big.Int)
	for i := range 32 {
		k.Lsh(k, 8).Or(k, whole(int64(i)))
	}
	x := one(1)
	for i := range x.s {
		x.s[i] = k
	}
	p := x.proof()
	b := p.Bytes()
	for i := range 19 {
		for j := range 32 {
			if b[528+32*i+j] != byte(j) {
				t.Errorf("the byte %d of the scalar %d: %d", j, i, b[528+32*i+j])
			}
		}
	}
	want(t, "numbers of many bytes", got(t, "numbers of many bytes", b), x)
}

// R8: what is refused takes no room, however much there was of it.
func TestRefusedTakesNoRoom(t *testing.T) {
	b := make([]byte, 1<<22)
	far := all(whole(0)).text()
	last := spoilt(far, 1184, wrongPoints()[0].text)
	var before, after runtime.MemStats
	runtime.ReadMemStats(&before)
	for range 100 {
		proof.Get(b)
		proof.Get(b[:1231])
		proof.Get(b[:1232])
		proof.Get(last)
	}
	runtime.ReadMemStats(&after)
	if more := after.TotalAlloc - before.TotalAlloc; more > 1<<21 {
		t.Errorf("refused calls took %d bytes", more)
	}
}
