package proof_test

import (
	"fmt"
	"math/big"
	"slices"
	"testing"

	"marlinspike/decide"
	"marlinspike/fr"
	"marlinspike/group"
	"marlinspike/points"
	"marlinspike/proof"
)

// P28.2: Points, Scalars and Values.

// lists are of numbers: of none, one, many.
func lists() [][]*big.Int {
	s := numbers{state: 5}
	l := [][]*big.Int{nil, {}, wholes(0), wholes(1), wholes(-1), wholes(0, 0), wholes(1, 2), wholes(2, 1), wholes(5, 5, 5), wholes(0, 1, 0), wholes(1, 0, 0)}
	for n := range 14 {
		l = append(l, s.bigs(n))
	}
	for n := int64(1); n < 300; n++ {
		l[0] = append(l[0], whole(n*(n%3-1)))
	}
	return l
}

// textOfPoints are the bytes of multiples of the generator, one behind the other, by the
// chapters' words; textOfScalars those of numbers.
func textOfPoints(ks []*big.Int) (b []byte) {
	for _, k := range ks {
		b = append(b, texts1.tell(k)...)
	}
	return b
}

func textOfScalars(ks []*big.Int) (b []byte) {
	for _, k := range ks {
		b = append(b, scalarText(mod(k))...)
	}
	return b
}

// pointsBy are the multiples, as the group tells them.
func pointsBy(ks []*big.Int) (l []group.G1) {
	for _, k := range ks {
		l = append(l, points1.tell(k))
	}
	return l
}

func TestPoints(t *testing.T) {
	for i, ks := range lists() {
		l := pointsBy(ks)
		wantBytes(t, fmt.Sprint("the list ", i), proof.Points(l...), textOfPoints(ks))
		for n := range l {
			l[n] = several(l[n])[(i+n)%ways]
		}
		wantBytes(t, fmt.Sprint("the list ", i, ", by other values"), proof.Points(l...), textOfPoints(ks))
	}
	a, b, c := points1.tell(whole(3)), points1.tell(whole(-4)), group.G1{}
	wantBytes(t, "told one by one", proof.Points(a, b, c), textOfPoints(wholes(3, -4, 0)))
	wantBytes(t, "told in another order", proof.Points(c, b, a), textOfPoints(wholes(0, -4, 3)))
	wantBytes(t, "the zero value", proof.Points(group.G1{}), append([]byte{128}, make([]byte, 47)...))
}

func TestScalars(t *testing.T) {
	for i, ks := range lists() {
		wantBytes(t, fmt.Sprint("the list ", i), proof.Scalars(els(ks)...), textOfScalars(ks))
	}
	wantBytes(t, "told one by one", proof.Scalars(fr.Of(3), fr.Of(-4), fr.El{}), textOfScalars(wholes(3, -4, 0)))
	wantBytes(t, "told in another order", proof.Scalars(fr.El{}, fr.Of(-4), fr.Of(3)), textOfScalars(wholes(0, -4, 3)))
	wantBytes(t, "the zero value", proof.Scalars(fr.El{}), make([]byte, 32))
	wantBytes(t, "258", proof.Scalars(fr.Of(258)), append(make([]byte, 30), 1, 2))
}

// Of none at all there are no bytes.
func TestOfNone(t *testing.T) {
	for i, b := range [][]byte{proof.Points(), proof.Points(nil...), proof.Points([]group.G1{}...), proof.Scalars(), proof.Scalars(nil...), proof.Scalars([]fr.El{}...)} {
		if len(b) > 0 {
			t.Errorf("%d: %x", i, b)
		}
	}
}

// Each one's bytes stand alone: those of a list are those of both its halves.
func TestOneBehindTheOther(t *testing.T) {
	for i, ks := range lists() {
		l, m := pointsBy(ks), els(ks)
		for n := 0; n <= len(ks); n += 1 + n/8 {
			wantBytes(t, fmt.Sprint("the list ", i, " at ", n), slices.Concat(proof.Points(l[:n]...), proof.Points(l[n:]...)), proof.Points(l...))
			wantBytes(t, fmt.Sprint("the list ", i, " at ", n), slices.Concat(proof.Scalars(m[:n]...), proof.Scalars(m[n:]...)), proof.Scalars(m...))
		}
	}
}

// Points of points of the curve alone, and of any other values, are what points tells.
func TestPointsOfAny(t *testing.T) {
	l := strange()
	var wanted []byte
	for _, p := range l {
		b := points.Put1(p)
		wanted = append(wanted, b[:]...)
	}
	wantBytes(t, "points of any kind", proof.Points(l...), wanted)
}

// wantList fails if a list of scalars is not this.
func wantList(t *testing.T, what string, l, wanted []fr.El) {
	t.Helper()
	if !slices.Equal(l, wanted) {
		t.Errorf("%s: %v, not %v", what, l, wanted)
	}
}

func TestValues(t *testing.T) {
	v := decide.Values{
		W: fr.Of(1), A: fr.Of(2), B: fr.Of(3), S: fr.Of(4), T: fr.Of(5), G1: fr.Of(6), H1: fr.Of(7),
		Row: [3]fr.El{fr.Of(8), fr.Of(9), fr.Of(10)}, Col: [3]fr.El{fr.Of(11), fr.Of(12), fr.Of(13)}, Val: [3]fr.El{fr.Of(14), fr.Of(15), fr.Of(16)},
		G2: fr.Of(17), H2: fr.Of(18),
	}
	var wanted []fr.El
	for n := range int64(18) {
		wanted = append(wanted, fr.Of(n+1))
	}
	wantList(t, "1 to 18", proof.Values(v), wanted)
	wantList(t, "the zero value", proof.Values(decide.Values{}), make([]fr.El, 18))
	for i, x := range tales() {
		wantList(t, fmt.Sprint("the proof ", i), proof.Values(x.proof().V), els(x.s[:18]))
	}
	for i := range 18 { // one alone is not 0
		var one decide.Values
		*valuesOf(&one)[i] = fr.Of(-1)
		wanted := make([]fr.El, 18)
		wanted[i] = fr.Of(-1)
		wantList(t, fmt.Sprint("the value ", i, " alone"), proof.Values(one), wanted)
	}
}

// What Points, Scalars and Values tell of a proof's parts are its bytes.
func TestBytesAreOfLists(t *testing.T) {
	for i, x := range tales() {
		p := x.proof()
		ahead := proof.Points(p.W, p.A, p.B, p.S, p.T, p.G1, p.G1s, p.H1, p.G2, p.G2s, p.H2)
		wantBytes(t, fmt.Sprint("the proof ", i), slices.Concat(ahead, proof.Scalars(proof.Values(p.V)...), proof.Scalars(p.Blind), proof.Points(p.Wb, p.Wg)), p.Bytes())
	}
}
