package proof_test

import (
	"bytes"
	"fmt"
	"math/big"
	"slices"
	"testing"

	"marlinspike/api"
	"marlinspike/points"
	"marlinspike/proof"
)

// P28.3: proofs, of points of the group, and their bytes are each other's.

func TestThereAndBack(t *testing.T) {
	var l []proof.Proof
	for i, x := range tales() {
		l = append(l, x.proof(), other(x.proof(), i))
	}
	together(len(l), func(i int) {
		b := l[i].Bytes()
		back := got(t, fmt.Sprint("the proof ", i), b)
		wantSame(t, fmt.Sprint("the proof ", i), back, l[i])
		again := back.Bytes()
		wantBytes(t, fmt.Sprint("the proof ", i, ", told again"), again, b)
		if twice := got(t, fmt.Sprint("the proof ", i, ", read again"), again); twice != back {
			t.Errorf("the proof %d, read again, is another value", i)
		}
	})
}

// With one bit turned over they are no proof's bytes, or those of another one.
func TestOtherBitsAreOtherProofs(t *testing.T) {
	b := tales()[6].text()
	was := got(t, "as it was", b)
	read := make([]int, len(b))
	together(len(b), func(i int) {
		for bit := range 8 {
			if !slices.Contains(pointPlaces(), i) && (i+bit)%4 > 0 {
				continue // to read points takes long
			}
			turned := slices.Clone(b)
			turned[i] ^= 1 << bit
			p, e := proof.Get(turned)
			if e != api.OK {
				if p != (proof.Proof{}) {
					t.Errorf("the bit %d of the byte %d: %+v beside %v", bit, i, p, e)
				}
				continue
			}
			read[i]++
			if again := p.Bytes(); !bytes.Equal(again, turned) || p == was {
				t.Errorf("the bit %d of the byte %d: read, there are other bytes", bit, i)
			}
		}
	})
	scalars := 0
	for _, n := range read[528:1136] {
		scalars += n
	}
	if scalars < 19*31*2 { // all of them but high bits
		t.Errorf("only %d are read", scalars)
	}
}

// Of any bytes that are read Bytes are those bytes, and of no others is there a proof.
func TestNoOtherBytes(t *testing.T) {
	s := numbers{state: 77}
	read := 0
	l := make([][]byte, 400)
	for i := range l {
		l[i] = tales()[6+i%8].text()
		for range 1 + s.below(3) {
			at := s.below(1232)
			if s.below(3) > 0 {
				at = 528 + s.below(608)
			}
			l[i][at] = byte(s.word())
		}
	}
	right := make([]bool, len(l))
	together(len(l), func(i int) {
		p, e := proof.Get(l[i])
		right[i] = e == api.OK
		if right[i] {
			wantBytes(t, fmt.Sprint("the bytes ", i), p.Bytes(), l[i])
		} else if p != (proof.Proof{}) {
			t.Errorf("the bytes %d: %+v beside %v", i, p, e)
		}
	})
	for _, is := range right {
		if is {
			read++
		}
	}
	if read < 50 || read > 350 {
		t.Errorf("%d are read", read)
	}
}

// Proofs of which one part is another one have other bytes, in just that part's place; and no
// two of them the same.
func TestUnlikeProofsHaveUnlikeBytes(t *testing.T) {
	seen := map[string]string{}
	x := one(1)
	b := x.text()
	add := func(what string, at, size int, y tale) {
		told := y.proof().Bytes()
		if before, is := seen[string(told)]; is {
			t.Errorf("%s and %s have the same bytes", before, what)
		}
		seen[string(told)] = what
		if len(told) != 1232 || bytes.Equal(told, b) || !bytes.Equal(told[:at], b[:at]) || !bytes.Equal(told[at+size:], b[at+size:]) {
			t.Errorf("%s: other places are other bytes, or none", what)
		}
	}
	for _, k := range append(wholes(0, -1, -2, -3, 100, 1<<40), number(great1)) {
		for i, at := range pointPlaces() {
			y := x
			y.c[i] = k
			add(fmt.Sprint("the point ", i, " of ", k), at, 48, y)
		}
		for i, at := range scalarPlaces() {
			y := x
			y.s[i] = k
			add(fmt.Sprint("the scalar ", i, " of ", k), at, 32, y)
		}
	}
	if len(seen) != 7*32 {
		t.Errorf("only %d proofs", len(seen))
	}
}

// Two parts changed with each other are changed in the bytes.
func TestChangedParts(t *testing.T) {
	x := one(1)
	for i := range 13 {
		for j := range i {
			y := x
			y.c[i], y.c[j] = y.c[j], y.c[i]
			p := x.proof()
			l := pointsOf(&p)
			*l[i], *l[j] = *l[j], *l[i]
			wantBytes(t, fmt.Sprint("the points ", i, " and ", j, " changed"), p.Bytes(), y.text())
		}
	}
	for i := range 19 {
		for j := range i {
			y := x
			y.s[i], y.s[j] = y.s[j], y.s[i]
			p := x.proof()
			l := scalarsOf(&p)
			*l[i], *l[j] = *l[j], *l[i]
			wantBytes(t, fmt.Sprint("the scalars ", i, " and ", j, " changed"), p.Bytes(), y.text())
		}
	}
}

// Points that are the same have the same bytes, whatever sums they come of.
func TestSamePointsHaveTheSameBytes(t *testing.T) {
	for i, x := range tales() {
		b := x.proof().Bytes()
		for way := range ways {
			wantBytes(t, fmt.Sprint("the proof ", i, ", the way ", way), other(x.proof(), way).Bytes(), b)
		}
	}
}

// The first byte of a point tells which one of two it is: a proof has other bytes than that of
// the negative of one point, and that is read.
func TestNegatives(t *testing.T) {
	x := tales()[7]
	b := x.text()
	turned := 0
	for i, at := range pointPlaces() {
		if b[at]&128 != 0 {
			continue
		}
		o := flagged(b, 0)
		o[at] ^= 64
		y := x
		y.c[i] = new(big.Int).Neg(x.c[i])
		want(t, fmt.Sprint("the negative of the point ", i), got(t, fmt.Sprint("the point ", i), o), y)
		turned++
	}
	if turned < 8 {
		t.Errorf("only %d are no far points", turned)
	}
	p := points1.tell(whole(9))
	if points.Put1(p) == points.Put1(points1.tell(whole(-9))) {
		t.Error("a point and its negative have the same bytes")
	}
}
