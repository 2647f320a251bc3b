package keys_test

import (
	"bytes"
	"fmt"
	"math"
	"math/big"
	"slices"
	"testing"

	"marlinspike/api"
	"marlinspike/curve"
	"marlinspike/fq"
	"marlinspike/fq2"
	"marlinspike/group"
	"marlinspike/keys"
	"marlinspike/points"
)

// P27.3: Bytes and Get.

// tales are keys of all numbers that may be, and of any points.
func tales() (l []tale) {
	s := numbers{state: 90}
	for _, f := range goods() {
		l = append(l, s.anyTale(f))
	}
	f := goods()[0]
	return append(l,
		tale{f, whole(0), whole(0), [9]*big.Int(slices.Repeat(wholes(0), 9))},
		tale{f, whole(1), whole(1), [9]*big.Int(slices.Repeat(wholes(1), 9))},
		tale{f, minus(1), minus(1), [9]*big.Int(slices.Repeat([]*big.Int{minus(1)}, 9))},
		tale{f, whole(1), whole(2), [9]*big.Int(wholes(3, 4, 5, 6, 7, 8, 9, 10, 11))},
	)
}

func TestBytes(t *testing.T) {
	for i, x := range tales() {
		want(t, fmt.Sprint("the key ", i), x.key(), x)
		want(t, fmt.Sprint("the key ", i, ", by other values"), other(x.key(), i), x)
	}
}

// Of a key of unlike points each place is told apart.
func TestBytesPlaceByPlace(t *testing.T) {
	x := tale{five{8192, 4096, 1024, 4095, 16383 + 1}, whole(1), whole(2), [9]*big.Int(wholes(3, 4, 5, 6, 7, 8, 9, 10, 11))}
	k := x.key()
	b := textOf(t, "the key", k)
	numbers := []byte{0, 0, 0x20, 0, 0, 0, 0x10, 0, 0, 0, 4, 0, 0x0f, 0xff, 0x40, 0}
	if !slices.Equal(b[:16], numbers) {
		t.Errorf("the numbers: %v, not %v", b[:16], numbers)
	}
	for i, p := range []group.G1{k.Blind, k.Row[0], k.Row[1], k.Row[2], k.Col[0], k.Col[1], k.Col[2], k.Val[0], k.Val[1], k.Val[2]} {
		at := []int{16, 160, 208, 256, 304, 352, 400, 448, 496, 544}[i]
		if wanted := points.Put1(p); !slices.Equal(b[at:at+48], wanted[:]) {
			t.Errorf("the point %d: %x, not %x", i, b[at:at+48], wanted)
		}
	}
	if wanted := points.Put2(k.Tau); !slices.Equal(b[64:160], wanted[:]) {
		t.Errorf("Tau: %x, not %x", b[64:160], wanted)
	}
	if len(b) != 592 {
		t.Errorf("%d bytes", len(b))
	}
}

// wantNoBytes fails if Bytes does not answer this error, and nothing else.
func wantNoBytes(t *testing.T, what string, k keys.Key, wanted api.Errno) {
	t.Helper()
	if b, e := k.Bytes(); e != wanted || len(b) > 0 {
		t.Errorf("%s: %x, %v, not %v", what, b, e, wanted)
	}
}

// Bytes tells what Check tells, at all edges.
func TestBytesTellsWhatCheckTells(t *testing.T) {
	x := tales()[0]
	k := x.key()
	told := map[api.Errno]int{}
	for _, f := range goods()[:10] {
		for i := range 5 {
			for _, n := range f.edges(i) {
				y := f.but(i, n)
				told[y.fault()]++
				k.Z, k.Inputs, k.D = y.sizes(), y.inputs, y.d
				if y.fault() != api.OK {
					wantNoBytes(t, fmt.Sprintf("%+v", y), k, y.fault())
					continue
				}
				x.five = y
				if b, e := k.Bytes(); e != api.OK || !bytes.Equal(b, x.text()) {
					t.Errorf("%+v: %x, %v, not %x", y, b, e, x.text())
				}
			}
		}
	}
	wantNoBytes(t, "the zero value", keys.Key{}, api.ErrSize)
	for _, e := range []api.Errno{api.OK, api.ErrSize, api.ErrArg, api.ErrDegree} {
		if told[e] < 20 {
			t.Errorf("only %d are told %v", told[e], e)
		}
	}
}

func TestGet(t *testing.T) {
	l := tales()
	together(len(l), func(i int) {
		k := got(t, fmt.Sprint("the key ", i), l[i].text())
		want(t, fmt.Sprint("the key ", i), k, l[i])
		wantSame(t, fmt.Sprint("the key ", i), k, l[i].key())
	})
}

// Bytes of no length, of one less, one more, and others.
func TestGetOfOtherLengths(t *testing.T) {
	right := tales()[0].text()
	zeros := make([]byte, 3000)
	for n := range 592 {
		refuse(t, fmt.Sprint(n, " bytes"), right[:n], api.ErrShort)
		refuse(t, fmt.Sprint(n, " bytes 0"), zeros[:n], api.ErrShort)
	}
	refuse(t, "nil", nil, api.ErrShort)
	for _, n := range []int{593, 594, 640, 688, 2 * 592, 3000} {
		refuse(t, fmt.Sprint(n, " bytes"), append(slices.Clone(right), zeros[592:n]...), api.ErrLong)
		refuse(t, fmt.Sprint(n, " bytes 0"), zeros[:n], api.ErrLong)
		refuse(t, fmt.Sprint(n, " bytes, the first one 0"), append([]byte{0}, append(slices.Clone(right), zeros[593:n]...)...), api.ErrLong)
	}
	refuse(t, "592 bytes 0", zeros[:592], api.ErrSize)
	refuse(t, "592 bytes 255", bytes.Repeat([]byte{255}, 592), api.ErrSize)
	refuse(t, "a byte 0 ahead, the last one left out", append([]byte{0}, right[:591]...), api.ErrSize)
}

// counted are bytes whose numbers are these, of their lowest bytes, and whose points are
// those of a key.
func counted(x tale, f five) []byte {
	text := slices.Clone(x.text())
	at := 0
	for i, n := range []int{f.n, f.x, f.m, f.inputs, f.d} {
		for j := []int{4, 4, 4, 2, 2}[i] - 1; j >= 0; j-- {
			text[at] = byte(n >> (8 * j))
			at++
		}
	}
	return text
}

// What is refused by the numbers, at all edges that so many bytes can tell: as Check tells
// of them.
func TestGetTellsWhatCheckTells(t *testing.T) {
	x := tales()[0]
	var l []five
	for _, f := range goods() {
		for i := range 5 {
			most := []int{math.MaxUint32, math.MaxUint16}[i/3]
			for _, n := range append(f.edges(i), most, most-1, most/2, most/2+1, 256, 257, 1<<8+2, 1<<8+12, 1<<15, 1<<15+2, 1<<15+12, 1<<16+4, 1<<24+2, 1<<24+4, 1<<31+4, 1<<31+2) {
				if n >= 0 && n <= most {
					l = append(l, f.but(i, n))
				}
			}
		}
	}
	told := map[api.Errno]int{}
	for _, f := range l {
		told[f.fault()]++
	}
	together(len(l), func(i int) {
		f := l[i]
		b := counted(x, f)
		if f.fault() != api.OK {
			refuse(t, fmt.Sprintf("%+v", f), b, f.fault())
			return
		}
		if i%3 > 0 {
			return // to read points takes long
		}
		k := got(t, fmt.Sprintf("%+v", f), b)
		if k.Z != f.sizes() || k.Inputs != f.inputs || k.D != f.d {
			t.Errorf("%+v: it is %+v, %d, %d", f, k.Z, k.Inputs, k.D)
		}
	})
	for _, e := range []api.Errno{api.OK, api.ErrSize, api.ErrArg, api.ErrDegree} {
		if told[e] < 20 {
			t.Errorf("only %d are told %v", told[e], e)
		}
	}
}

// Each byte of the numbers plays its part, and so does each bit of it.
func TestGetAsksAllOfNumbers(t *testing.T) {
	x := tales()[0]
	for i := range 16 {
		for bit := range 8 {
			b := slices.Clone(x.text())
			b[i] ^= 1 << bit
			f := x.five
			at := []int{0, 0, 0, 0, 1, 1, 1, 1, 2, 2, 2, 2, 3, 3, 4, 4}[i]
			high := 8 * ([]int{4, 8, 12, 14, 16}[at] - 1 - i)
			f = f.but(at, []int{f.n, f.x, f.m, f.inputs, f.d}[at]^1<<(high+bit))
			if f.fault() != api.OK {
				refuse(t, fmt.Sprintf("%+v", f), b, f.fault())
				continue
			}
			y := x
			y.five = f
			want(t, fmt.Sprintf("%+v", f), got(t, fmt.Sprintf("%+v", f), b), y)
		}
	}
}

// The errors of points: what stands in place of one, and what is told of it.
type wrong struct {
	what string
	text []byte
	e    api.Errno
}

// textAt are bytes of so many, all 0 but some.
func textAt(size int, some map[int]byte) []byte {
	b := make([]byte, size)
	for i, x := range some {
		b[i] = x
	}
	return b
}

// orderTwo are the bytes of the point of G1's curve whose y is 0.
func orderTwo() []byte { return new(big.Int).Sub(q, whole(1)).FillBytes(make([]byte, 48)) }

// wrongs1 are no bytes of a point of G1.
func wrongs1() []wrong {
	zeroY := slices.Clone(orderTwo())
	zeroY[0] |= 64
	right := texts1.tell(whole(5))
	flagged := slices.Clone(right)
	flagged[0] |= 128
	big64 := q.FillBytes(make([]byte, 48))
	big64[0] |= 64
	return []wrong{
		{"the far one with 64", textAt(48, map[int]byte{0: 192}), api.ErrForm},
		{"the far one with 1", textAt(48, map[int]byte{0: 129}), api.ErrForm},
		{"the far one with 32", textAt(48, map[int]byte{0: 160}), api.ErrForm},
		{"the far one with a byte in the middle", textAt(48, map[int]byte{0: 128, 24: 1}), api.ErrForm},
		{"the far one with a byte behind", textAt(48, map[int]byte{0: 128, 1: 1}), api.ErrForm},
		{"the far one with a last byte", textAt(48, map[int]byte{0: 128, 47: 128}), api.ErrForm},
		{"a point with 128", flagged, api.ErrForm},
		{"all 255", bytes.Repeat([]byte{255}, 48), api.ErrForm},
		{"64 beside y 0", zeroY, api.ErrForm},
		{"q", q.FillBytes(make([]byte, 48)), api.ErrField},
		{"q with 64", big64, api.ErrField},
		{"q and 2", new(big.Int).Add(q, whole(2)).FillBytes(make([]byte, 48)), api.ErrField},
		{"1, and 255", append([]byte{1, 0xff}, bytes.Repeat([]byte{255}, 46)...), api.ErrField},
		{"63, and 255", append([]byte{63}, bytes.Repeat([]byte{255}, 47)...), api.ErrField},
		{"4, of which there is no point", textAt(48, map[int]byte{47: 4}), api.ErrCurve},
		{"4 with 64", textAt(48, map[int]byte{0: 64, 47: 4}), api.ErrCurve},
		{"2, of the order 6", textAt(48, map[int]byte{47: 2}), api.ErrGroup},
		{"2 with 64", textAt(48, map[int]byte{0: 64, 47: 2}), api.ErrGroup},
		{"y 0, of the order 2", orderTwo(), api.ErrGroup},
		{"x 0, of the order 3", make([]byte, 48), api.ErrGroup},
	}
}

// wrongs2 are no bytes of a point of G2. Of small x it is sought of which there is no point,
// and one that is not of the group.
func wrongs2() []wrong {
	right := slices.Clone(texts2.tell(whole(5)))
	right[0] |= 128
	none, outside := seek2(false), seek2(true)
	great := slices.Clone(outside)
	great[0] |= 64
	return []wrong{
		{"the far one with 64", textAt(96, map[int]byte{0: 192}), api.ErrForm},
		{"the far one with 1", textAt(96, map[int]byte{0: 129}), api.ErrForm},
		{"the far one with a byte of A", textAt(96, map[int]byte{0: 128, 48: 1}), api.ErrForm},
		{"the far one with 128 of A", textAt(96, map[int]byte{0: 128, 48: 128}), api.ErrForm},
		{"the far one with a last byte", textAt(96, map[int]byte{0: 128, 95: 1}), api.ErrForm},
		{"a point with 128", right, api.ErrForm},
		{"all 255", bytes.Repeat([]byte{255}, 96), api.ErrForm},
		{"B of q", slices.Concat(q.FillBytes(make([]byte, 48)), make([]byte, 48)), api.ErrField},
		{"A of q", slices.Concat(make([]byte, 48), q.FillBytes(make([]byte, 48))), api.ErrField},
		{"A with 64", textAt(96, map[int]byte{48: 64, 95: 1}), api.ErrField},
		{"A with 128", textAt(96, map[int]byte{48: 128}), api.ErrField},
		{"x of which there is no point", none, api.ErrCurve},
		{"x of which the point is not of the group", outside, api.ErrGroup},
		{"that with 64", great, api.ErrGroup},
	}
}

// seek2 are the bytes of an x of G2's curve of which there is a point, that is not of the
// group, or none.
func seek2(is bool) []byte {
	b := group.Curve2()
	for n := int64(1); ; n++ {
		x := fq2.Of(n, 0)
		y, e := x.Mul(x).Mul(x).Add(perU()).Sqrt()
		if (e == api.OK) != is {
			continue
		}
		if e == api.OK {
			p, e := b.Of(x, y)
			if e != api.OK || group.In2(p) {
				continue
			}
		}
		return slices.Concat(make([]byte, 48), whole(n).FillBytes(make([]byte, 48)))
	}
}

// perU is 1 / u.
func perU() fq2.El {
	x, e := fq2.Of(0, 1).Inv()
	if e != api.OK {
		panic(e)
	}
	return x
}

// pointPlaces are where a key's points begin, in order; the second one is Tau, of twice as
// many bytes.
func pointPlaces() []int { return []int{16, 64, 160, 208, 256, 304, 352, 400, 448, 496, 544} }

// spoilt are bytes with others in place of some.
func spoilt(b []byte, at int, text []byte) []byte {
	bad := slices.Clone(b)
	copy(bad[at:], text)
	return bad
}

// wrongsAt are those of a point, by its number.
func wrongsAt(i int) []wrong {
	if i == 1 {
		return wrongs2()
	}
	return wrongs1()
}

// Each point alone no good, by each error.
func TestGetOfWrongPoints(t *testing.T) {
	right := tales()[1].text()
	told := map[api.Errno]int{}
	for i, at := range pointPlaces() {
		for _, w := range wrongsAt(i) {
			told[w.e]++
			refuse(t, fmt.Sprint("the point ", i, ", ", w.what), spoilt(right, at, w.text), w.e)
		}
	}
	for _, e := range []api.Errno{api.ErrForm, api.ErrField, api.ErrCurve, api.ErrGroup} {
		if told[e] < 11 {
			t.Errorf("only %d are told %v", told[e], e)
		}
	}
}

// The far one may be.
func TestGetOfFarPoints(t *testing.T) {
	x := tales()[1]
	for i, at := range pointPlaces() {
		far := texts1.tell(whole(0))
		y := x
		switch i {
		case 0:
			y.blind = whole(0)
		case 1:
			y.tau, far = whole(0), texts2.tell(whole(0))
		default:
			y.c[i-2] = whole(0)
		}
		b := spoilt(x.text(), at, far)
		if !slices.Equal(b, y.text()) {
			t.Fatalf("the words tell other bytes of the far point %d", i)
		}
		want(t, fmt.Sprint("the far point ", i), got(t, fmt.Sprint("the far point ", i), b), y)
	}
}

// Of two points that are no good the first one's error goes ahead.
func TestGetTellsTheFirstPoint(t *testing.T) {
	right := tales()[1].text()
	pick := func(i int, e api.Errno) []byte {
		for _, w := range wrongsAt(i) {
			if w.e == e {
				return w.text
			}
		}
		return nil
	}
	all := []api.Errno{api.ErrForm, api.ErrField, api.ErrCurve, api.ErrGroup}
	for j, behind := range pointPlaces() {
		for i, ahead := range pointPlaces()[:j] {
			for n, first := range all {
				for m, second := range all {
					if n != m && (i+j+n+m)%3 == 0 || j-i == 1 {
						b := spoilt(spoilt(right, behind, pick(j, second)), ahead, pick(i, first))
						refuse(t, fmt.Sprintf("the points %d and %d, by %v and %v", i, j, first, second), b, first)
					}
				}
			}
		}
	}
}

// A number no good goes ahead of a point no good, and the length ahead of both.
func TestGetTellsNumbersAheadOfPoints(t *testing.T) {
	x := tales()[0]
	for _, f := range []five{x.but(0, 2), x.but(1, 3), x.but(2, 1), x.but(3, 0), x.but(3, 3), x.but(4, 11), x.but(4, api.MaxPower+1), x.but(0, 0).but(4, 0), x.but(3, 0).but(4, 0)} {
		for i, at := range pointPlaces() {
			for _, w := range wrongsAt(i)[:1] {
				b := spoilt(counted(x, f), at, w.text)
				refuse(t, fmt.Sprintf("%+v, and the point %d", f, i), b, f.fault())
				refuse(t, fmt.Sprintf("%+v, and the point %d, a byte less", f, i), b[:591], api.ErrShort)
				refuse(t, fmt.Sprintf("%+v, and the point %d, a byte more", f, i), append(b, 0), api.ErrLong)
			}
		}
		refuse(t, fmt.Sprintf("%+v, a byte less", f), counted(x, f)[:591], api.ErrShort)
		refuse(t, fmt.Sprintf("%+v, a byte more", f), append(counted(x, f), 0), api.ErrLong)
	}
	for i, at := range pointPlaces() {
		b := spoilt(x.text(), at, wrongsAt(i)[0].text)
		refuse(t, fmt.Sprint("the point ", i, ", a byte less"), b[:591], api.ErrShort)
		refuse(t, fmt.Sprint("the point ", i, ", a byte more"), append(b, 0), api.ErrLong)
	}
}

// Of a key by hand, whose points are of the curves alone, there are bytes; but they are not
// read.
func TestBytesOfPointsOutside(t *testing.T) {
	p, e := group.Curve1().Of(fq.Of(2), fq.Of(3))
	if e != api.OK {
		t.Fatal(e)
	}
	k := tales()[0].key()
	for i, at := range commitments(&k) {
		was := *at
		*at = p
		b := textOf(t, "a point of the order 6", k)
		if wanted := points.Put1(p); !slices.Equal(b[160+48*i:208+48*i], wanted[:]) {
			t.Errorf("%d: %x", i, b)
		}
		refuse(t, fmt.Sprint("a point of the order 6 at ", i), b, api.ErrGroup)
		*at = was
	}
	k.Blind = curve.Point[fq.El]{X: fq.Of(2), Y: fq.Of(3), Z: fq.Of(1)}
	refuse(t, "a blind of the order 6", textOf(t, "a blind of the order 6", k), api.ErrGroup)
}
