package proof_test

import (
	"bytes"
	"fmt"
	"math/big"
	"slices"
	"testing"

	"marlinspike/api"
	"marlinspike/fr"
	"marlinspike/points"
	"marlinspike/proof"
)

// P28.1: Bytes and Get.

func TestBytes(t *testing.T) {
	for i, x := range tales() {
		want(t, fmt.Sprint("the proof ", i), x.proof(), x)
		want(t, fmt.Sprint("the proof ", i, ", by other values"), other(x.proof(), i), x)
	}
}

// Of a proof of unlike parts each place is told apart, part by part.
func TestBytesPlaceByPlace(t *testing.T) {
	p := one(1).proof()
	b := p.Bytes()
	if len(b) != 1232 {
		t.Fatalf("%d bytes", len(b))
	}
	point := func(at int) []byte { return b[at : at+48] }
	for _, c := range []struct {
		what string
		is   []byte
		n    int64
	}{
		{"W", point(0), 1}, {"A", point(48), 2}, {"B", point(96), 3}, {"S", point(144), 4}, {"T", point(192), 5}, {"G1", point(240), 6},
		{"G1s", point(288), 7}, {"H1", point(336), 8}, {"G2", point(384), 9}, {"G2s", point(432), 10}, {"H2", point(480), 11},
		{"Wb", point(1136), 12}, {"Wg", point(1184), 13},
	} {
		wantBytes(t, c.what, c.is, texts1.tell(whole(c.n)))
	}
	for i, what := range []string{"W", "A", "B", "S", "T", "G1", "H1", "Row 0", "Row 1", "Row 2", "Col 0", "Col 1", "Col 2", "Val 0", "Val 1", "Val 2", "G2", "H2", "Blind"} {
		at := 528 + 32*i
		wantBytes(t, what, b[at:at+32], append(make([]byte, 31), byte(14+i)))
	}
	v := p.V
	for i, x := range []fr.El{v.W, v.A, v.B, v.S, v.T, v.G1, v.H1, v.Row[0], v.Row[1], v.Row[2], v.Col[0], v.Col[1], v.Col[2], v.Val[0], v.Val[1], v.Val[2], v.G2, v.H2, p.Blind} {
		if x != fr.Of(int64(14+i)) {
			t.Errorf("the tests lay the scalar %d elsewhere", i)
		}
	}
}

// The zero value of a proof has far points, and 0s.
func TestBytesOfNothing(t *testing.T) {
	b := proof.Proof{}.Bytes()
	wantBytes(t, "the zero value", b, all(whole(0)).text())
	if len(b) != 1232 || b[0] != 128 || b[528] != 0 || b[1135] != 0 || b[1136] != 128 || b[1184] != 128 {
		t.Errorf("%d bytes: %x", len(b), b)
	}
	p, e := proof.Get(b)
	if e != api.OK {
		t.Errorf("read: %v", e)
	}
	wantSame(t, "read", p, proof.Proof{})
}

func TestGet(t *testing.T) {
	l := tales()
	together(len(l), func(i int) {
		p := got(t, fmt.Sprint("the proof ", i), l[i].text())
		want(t, fmt.Sprint("the proof ", i), p, l[i])
		wantSame(t, fmt.Sprint("the proof ", i), p, l[i].proof())
	})
}

// Bytes of no length, of one less, one more, and others.
func TestGetOfOtherLengths(t *testing.T) {
	right := one(1).text()
	zeros := make([]byte, 4000)
	for n := range 1232 {
		refuse(t, fmt.Sprint(n, " bytes"), right[:n], api.ErrShort)
		refuse(t, fmt.Sprint(n, " bytes 0"), zeros[:n], api.ErrShort)
	}
	refuse(t, "nil", nil, api.ErrShort)
	for _, n := range []int{1233, 1234, 1264, 1280, 2 * 1232, 4000} {
		refuse(t, fmt.Sprint(n, " bytes"), append(slices.Clone(right), zeros[1232:n]...), api.ErrLong)
		refuse(t, fmt.Sprint(n, " bytes 0"), zeros[:n], api.ErrLong)
		refuse(t, fmt.Sprint(n, " bytes, the first one 0"), append([]byte{0}, append(slices.Clone(right), zeros[1233:n]...)...), api.ErrLong)
	}
	refuse(t, "1232 bytes 0", zeros[:1232], api.ErrGroup)
	refuse(t, "1232 bytes 255", bytes.Repeat([]byte{255}, 1232), api.ErrForm)
	refuse(t, "1232 bytes 128", bytes.Repeat([]byte{128}, 1232), api.ErrForm)
}

// wrong is what stands in place of a part, and what is told of it.
type wrong struct {
	what string
	text []byte
	e    api.Errno
}

// textAt are a point's bytes, all 0 but some.
func textAt(some map[int]byte) []byte {
	b := make([]byte, 48)
	for i, x := range some {
		b[i] = x
	}
	return b
}

// orderTwo are the bytes of the point of G1's curve whose y is 0.
func orderTwo() []byte { return new(big.Int).Sub(q, whole(1)).FillBytes(make([]byte, 48)) }

// flagged are bytes with more in the first one.
func flagged(b []byte, more byte) []byte {
	b = slices.Clone(b)
	b[0] |= more
	return b
}

// wrongPoints are no bytes of a point.
func wrongPoints() []wrong {
	ofQ := q.FillBytes(make([]byte, 48))
	return []wrong{
		{"the far one with 64", textAt(map[int]byte{0: 192}), api.ErrForm},
		{"the far one with 1", textAt(map[int]byte{0: 129}), api.ErrForm},
		{"the far one with 32", textAt(map[int]byte{0: 160}), api.ErrForm},
		{"the far one with a byte in the middle", textAt(map[int]byte{0: 128, 24: 1}), api.ErrForm},
		{"the far one with a byte behind", textAt(map[int]byte{0: 128, 1: 1}), api.ErrForm},
		{"the far one with a last byte", textAt(map[int]byte{0: 128, 47: 128}), api.ErrForm},
		{"a point with 128", flagged(texts1.tell(whole(5)), 128), api.ErrForm},
		{"all 255", bytes.Repeat([]byte{255}, 48), api.ErrForm},
		{"64 beside y 0", flagged(orderTwo(), 64), api.ErrForm},
		{"q", ofQ, api.ErrField},
		{"q with 64", flagged(ofQ, 64), api.ErrField},
		{"q and 2", new(big.Int).Add(q, whole(2)).FillBytes(make([]byte, 48)), api.ErrField},
		{"1, and 255", append([]byte{1, 0xff}, bytes.Repeat([]byte{255}, 46)...), api.ErrField},
		{"63, and 255", append([]byte{63}, bytes.Repeat([]byte{255}, 47)...), api.ErrField},
		{"4, of which there is no point", textAt(map[int]byte{47: 4}), api.ErrCurve},
		{"4 with 64", textAt(map[int]byte{0: 64, 47: 4}), api.ErrCurve},
		{"2, of the order 6", textAt(map[int]byte{47: 2}), api.ErrGroup},
		{"2 with 64", textAt(map[int]byte{0: 64, 47: 2}), api.ErrGroup},
		{"y 0, of the order 2", orderTwo(), api.ErrGroup},
		{"x 0, of the order 3", make([]byte, 48), api.ErrGroup},
	}
}

// scalarText are the 32 bytes of a number, also of r or above.
func scalarText(n *big.Int) []byte { return n.FillBytes(make([]byte, 32)) }

// wrongScalars are no bytes of a scalar.
func wrongScalars() []wrong {
	above := func(n int64) []byte { return scalarText(new(big.Int).Add(r, whole(n))) }
	twice := new(big.Int).Lsh(r, 1)
	return []wrong{
		{"r", above(0), api.ErrField},
		{"r + 1", above(1), api.ErrField},
		{"r + 2^32", above(1 << 32), api.ErrField},
		{"2 r", scalarText(twice), api.ErrField},
		{"2 r + 5", scalarText(twice.Add(twice, whole(5))), api.ErrField},
		{"255, and 0", append([]byte{255}, make([]byte, 31)...), api.ErrField},
		{"128, and 0", append([]byte{128}, make([]byte, 31)...), api.ErrField},
		{"32 bytes 255", bytes.Repeat([]byte{255}, 32), api.ErrField},
	}
}

// part is one of a proof's 32: where its bytes begin, and what may not be there.
type part struct {
	what   string
	at     int
	wrongs []wrong
}

// parts are all of them, in the order of the bytes.
func parts() (l []part) {
	for i, at := range pointPlaces() {
		l = append(l, part{fmt.Sprint("the point ", i), at, wrongPoints()})
	}
	for i, at := range scalarPlaces() {
		l = append(l, part{fmt.Sprint("the scalar ", i), at, wrongScalars()})
	}
	slices.SortFunc(l, func(x, y part) int { return x.at - y.at })
	return l
}

// pick is the first of a part's wrongs that is told so, or none.
func (x part) pick(e api.Errno) (wrong, bool) {
	for _, w := range x.wrongs {
		if w.e == e {
			return w, true
		}
	}
	return wrong{}, false
}

// Each part alone no good, by each error.
func TestGetOfWrongParts(t *testing.T) {
	right, l := tales()[6].text(), parts()
	if len(l) != 32 || l[10].at != 480 || l[11].at != 528 || l[29].at != 1104 || l[30].at != 1136 {
		t.Fatal("the parts are not in the order of the bytes")
	}
	together(len(l), func(i int) {
		for _, w := range l[i].wrongs {
			refuse(t, fmt.Sprint(l[i].what, ", ", w.what), spoilt(right, l[i].at, w.text), w.e)
		}
	})
	for _, e := range []api.Errno{api.ErrForm, api.ErrField, api.ErrCurve, api.ErrGroup} {
		if _, is := l[0].pick(e); !is {
			t.Errorf("none is told %v", e)
		}
	}
}

// The far one may be, wherever there is a point, and so may the one whose y is great, or not.
func TestGetOfFarPoints(t *testing.T) {
	x := tales()[6]
	together(13, func(i int) {
		for _, k := range append(wholes(0, 1, -1, 2, -2), x.c[i], new(big.Int).Neg(x.c[i])) {
			y := x
			y.c[i] = k
			what := fmt.Sprint("the point ", i, " of ", k)
			b := spoilt(x.text(), pointPlaces()[i], texts1.tell(k))
			wantBytes(t, what, y.text(), b)
			want(t, what, got(t, what, b), y)
		}
	})
}

// 0 and r - 1 may be, wherever there is a scalar, and others.
func TestGetOfEdgeScalars(t *testing.T) {
	x := tales()[6]
	together(19, func(i int) {
		for _, k := range []*big.Int{whole(0), whole(1), whole(255), whole(1 << 62), minus(1), minus(2), new(big.Int).Rsh(r, 1), new(big.Int).Lsh(whole(1), 252)} {
			y := x
			y.s[i] = k
			what := fmt.Sprint("the scalar ", i, " of ", k)
			b := spoilt(x.text(), scalarPlaces()[i], scalarText(k))
			wantBytes(t, what, y.text(), b)
			want(t, what, got(t, what, b), y)
		}
	})
}

// Of two parts that are no good the first one's error goes ahead, in the order of the bytes,
// whatever the errors are.
func TestGetTellsTheFirstPart(t *testing.T) {
	right, l := tales()[6].text(), parts()
	errors := []api.Errno{api.ErrForm, api.ErrField, api.ErrCurve, api.ErrGroup}
	together(len(l), func(j int) {
		for i := range j {
			for n, ahead := range errors {
				for m, behind := range errors {
					first, is := l[i].pick(ahead)
					second, too := l[j].pick(behind)
					if !is || !too || j-i > 1 && (i+j+n+m)%3 > 0 {
						continue // to read points takes long
					}
					b := spoilt(spoilt(right, l[j].at, second.text), l[i].at, first.text)
					refuse(t, fmt.Sprintf("%s by %v, %s by %v", l[i].what, ahead, l[j].what, behind), b, ahead)
				}
			}
		}
	})
}

// The pairs that the order of the bytes alone tells apart, each by name.
func TestGetTellsThatOrder(t *testing.T) {
	right := tales()[6].text()
	form, group, high := wrongPoints()[1].text, wrongPoints()[16].text, wrongScalars()[0].text
	for _, c := range []struct {
		what          string
		first, second int
		ahead, behind []byte
		e             api.Errno
	}{
		{"W ahead of A", 0, 48, group, form, api.ErrGroup},
		{"G1 ahead of G1s", 240, 288, group, form, api.ErrGroup},
		{"G1s ahead of H1", 288, 336, group, form, api.ErrGroup},
		{"G2 ahead of G2s", 384, 432, group, form, api.ErrGroup},
		{"H2 ahead of the value of W", 480, 528, group, high, api.ErrGroup},
		{"W ahead of Wg", 0, 1184, group, form, api.ErrGroup},
		{"the value of W ahead of Blind", 528, 1104, high, high, api.ErrField},
		{"Blind ahead of Wb", 1104, 1136, high, form, api.ErrField},
		{"the value of H2 ahead of Wg", 1072, 1184, high, group, api.ErrField},
		{"Wb ahead of Wg", 1136, 1184, group, form, api.ErrGroup},
	} {
		refuse(t, c.what, spoilt(spoilt(right, c.first, c.ahead), c.second, c.behind), c.e)
	}
}

// The length goes ahead of all that is no good.
func TestGetTellsTheLengthFirst(t *testing.T) {
	right := tales()[6].text()
	for _, x := range parts() {
		for _, w := range x.wrongs {
			b := spoilt(right, x.at, w.text)
			refuse(t, x.what+", "+w.what+", a byte less", b[:1231], api.ErrShort)
			refuse(t, x.what+", "+w.what+", a byte more", append(b, 0), api.ErrLong)
			refuse(t, x.what+", "+w.what+", a byte less ahead", b[1:], api.ErrShort)
			refuse(t, x.what+", "+w.what+", a byte more ahead", append([]byte{128}, b...), api.ErrLong)
		}
	}
}

// Of a proof by hand, whose points are of the curve alone, there are bytes; but they are not
// read.
func TestBytesOfPointsOutside(t *testing.T) {
	x := tales()[6]
	p, out := x.proof(), orderSix()
	text := points.Put1(out)
	for i, at := range pointsOf(&p) {
		was := *at
		*at = out
		wanted := spoilt(x.text(), pointPlaces()[i], text[:])
		wantBytes(t, fmt.Sprint("of the order 6 at ", i), p.Bytes(), wanted)
		refuse(t, fmt.Sprint("of the order 6 at ", i), wanted, api.ErrGroup)
		*at = was
	}
}
