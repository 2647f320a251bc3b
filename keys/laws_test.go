package keys_test

import (
	"bytes"
	"fmt"
	"math/big"
	"slices"
	"testing"

	"marlinspike/api"
	"marlinspike/batch"
	"marlinspike/decide"
	"marlinspike/fr"
	"marlinspike/group"
	"marlinspike/index"
	"marlinspike/keys"
	"marlinspike/open"
	"marlinspike/points"
	"marlinspike/poly"
	"marlinspike/srs"
)

// P27.4: keys and their bytes are each other's, and the key of a circuit hangs on the circuit
// and the setup alone.

// manyKeys are keys of circuits, and of any numbers and points.
func manyKeys(t *testing.T) (l []keys.Key) {
	t.Helper()
	setup := made(t, number(great1), whole(9), 200)
	for i, c := range circuits() {
		l = append(l, keyOf(t, fmt.Sprint("the circuit ", i), setup, c))
	}
	for i, x := range tales() {
		l = append(l, x.key(), other(x.key(), i))
	}
	return l
}

func TestThereAndBack(t *testing.T) {
	l := manyKeys(t)
	together(len(l), func(i int) {
		b, e := l[i].Bytes()
		if e != api.OK {
			t.Errorf("the key %d: %v", i, e)
		}
		back, e := keys.Get(b)
		if e != api.OK {
			t.Errorf("the key %d, read: %v", i, e)
		}
		wantSame(t, fmt.Sprint("the key ", i), back, l[i])
		again, e := back.Bytes()
		if e != api.OK || !bytes.Equal(again, b) {
			t.Errorf("the key %d, told again: %x, %v, not %x", i, again, e, b)
		}
		twice, e := keys.Get(again)
		if e != api.OK || twice != back {
			t.Errorf("the key %d, read again, is another value: %v", i, e)
		}
	})
}

// With one bit turned over they are no key's bytes, or those of another one.
func TestOtherBitsAreOtherKeys(t *testing.T) {
	x := tales()[0]
	b := x.text()
	was := got(t, "as it was", b)
	read := make([]int, 592)
	together(len(b), func(i int) {
		if i >= 16 && (i-16)%48 > 1 && i%7 > 0 {
			return // to read points takes long
		}
		for bit := range 8 {
			turned := slices.Clone(b)
			turned[i] ^= 1 << bit
			k, e := keys.Get(turned)
			if e != api.OK {
				if k != (keys.Key{}) {
					t.Errorf("the bit %d of the byte %d: %+v beside %v", bit, i, k, e)
				}
				continue
			}
			read[i]++
			if again := textOf(t, "read", k); !bytes.Equal(again, turned) || k == was {
				t.Errorf("the bit %d of the byte %d: read, there are other bytes", bit, i)
			}
		}
	})
	all := 0
	for _, n := range read {
		all += n
	}
	if all < 11 { // each point's negative
		t.Errorf("only %d are read", all)
	}
}

// Keys of which one number, or one point, is another one have other bytes; and no two of
// them the same.
func TestUnlikeKeysHaveUnlikeBytes(t *testing.T) {
	seen := map[string]string{}
	add := func(what string, x tale) {
		b := textOf(t, what, x.key())
		if before, is := seen[string(b)]; is {
			t.Errorf("%s and %s have the same bytes", before, what)
		}
		seen[string(b)] = what
	}
	x := tales()[len(tales())-1]
	x.five = five{16, 4, 4, 3, 50}
	add("as it is", x)
	for i, l := range [][]int{{8, 32, 64}, {8, 1 << 1}, {2, 8, 16}, {1, 2, 4}, {49, 51, 50 + 256, 48, api.MaxPower}} {
		for _, n := range l {
			y := x
			y.five = x.but(i, n)
			switch {
			case y.fault() == api.ErrArg:
				y.inputs = y.x
			case y.fault() == api.ErrDegree:
				y.d = int(needOf(y.sizes()).Int64())
			}
			if y.fault() == api.OK && y.five != x.five {
				add(fmt.Sprint("the number ", i, " of ", n), y)
			}
		}
	}
	for _, k := range append(wholes(0, -1, -2, -3, 100, 1<<40), number(great1)) {
		for i := range 11 {
			y := x
			switch i {
			case 0:
				y.blind = k
			case 1:
				y.tau = k
			default:
				y.c[i-2] = k
			}
			add(fmt.Sprint("the point ", i, " of ", k), y)
		}
	}
	for i := range 10 { // two points of G1 changed with each other
		for j := range i {
			y := x
			places := []**big.Int{&y.blind}
			for n := range y.c {
				places = append(places, &y.c[n])
			}
			*places[i], *places[j] = *places[j], *places[i]
			add(fmt.Sprint("the points ", i, " and ", j, " changed"), y)
		}
	}
	if len(seen) < 11*7+45+8 {
		t.Errorf("only %d keys", len(seen))
	}
}

// Points that are the same have the same bytes, whatever sums they come of.
func TestSamePointsHaveTheSameBytes(t *testing.T) {
	for i, x := range tales() {
		b := textOf(t, "as it is", x.key())
		for way := range ways {
			if again := textOf(t, "by other values", other(x.key(), way)); !bytes.Equal(again, b) {
				t.Errorf("the key %d, the way %d: %x, not %x", i, way, again, b)
			}
		}
	}
}

// The same call, made again, and by a setup of its own of the same scalars, has the same
// bytes; so has the setup read from its bytes, or told by other values.
func TestKeysHangOnCircuitAndSetupAlone(t *testing.T) {
	tau, g := number(great1), number(great2)
	long := made(t, tau, g, 200)
	l := circuits()
	together(len(l), func(i int) {
		c, d := l[i], mostOf(t, l[i])+i%2
		s := trimmed(t, long, d)
		text, e := s.Bytes()
		if e != api.OK {
			t.Error(e)
		}
		read, e := srs.Get(text)
		if e != api.OK {
			t.Error(e)
		}
		b := textOf(t, "first", keyOf(t, "first", s, c))
		for j, o := range []*srs.SRS{s, trimmed(t, long, d), made(t, tau, g, d), read, otherSetup(s, i), expsOf(tau, g, d).setup()} {
			if again := textOf(t, "again", keyOf(t, "again", o, c)); !bytes.Equal(again, b) {
				t.Errorf("the circuit %d, the setup %d: %x, not %x", i, j, again, b)
			}
		}
		loose := &srs.SRS{Powers: s.Powers, Blinds: slices.Clone(s.Blinds), Tau: s.Tau}
		for j := range loose.Blinds[1:] {
			loose.Blinds[1+j] = gen1
		}
		if again := textOf(t, "other blinds", keyOf(t, "other blinds", loose, c)); !bytes.Equal(again, b) {
			t.Errorf("the circuit %d: blinds behind the first one play a part", i)
		}
	})
}

// By another setup, or of another circuit, there are other bytes.
func TestOtherSetupsAndCircuitsHaveOtherKeys(t *testing.T) {
	seen := map[string]string{}
	add := func(what string, s *srs.SRS, c api.Circuit) {
		b := textOf(t, what, keyOf(t, what, s, c))
		if before, is := seen[string(b)]; is {
			t.Errorf("%s and %s have the same key", before, what)
		}
		seen[string(b)] = what
	}
	for _, x := range [][3]int64{{2, 3, 24}, {3, 3, 24}, {2, 4, 24}, {-2, 3, 24}, {2, 3, 25}, {2, 3, 26}, {5, 7, 30}} {
		s := made(t, whole(x[0]), whole(x[1]), int(x[2]))
		add(fmt.Sprint("x x = y by ", x), s, square())
		add(fmt.Sprint("x x x + x + 5 = y by ", x), s, cube())
	}
	s := made(t, whole(2), whole(3), 200)
	for i, c := range circuits() {
		add(fmt.Sprint("the circuit ", i), s, c)
	}
	for i := range 3 { // one entry is another one
		for n := range 3 {
			for kind := range 4 {
				c := cube()
				m := *[]*[]api.Entry{&c.A, &c.B, &c.C}[i]
				what := fmt.Sprint("the matrix ", i, ", the entry ", n, ", the kind ", kind)
				switch {
				case kind == 0:
					m[n].Val = bytesOf(whole(77))
				case kind == 1:
					m[n].Val = bytesOf(minus(1))
				case kind == 2 && m[n].Col < 4 && (n == len(m)-1 || m[n+1].Row > m[n].Row):
					m[n].Col++
				case kind == 3 && n == len(m)-1:
					*[]*[]api.Entry{&c.A, &c.B, &c.C}[i] = m[:n]
				default:
					continue
				}
				add(what, s, c)
			}
		}
	}
	c := cube() // A, B and C in another order
	c.A, c.B = c.B, c.A
	add("A and B changed", s, c)
	c = cube()
	c.A, c.C = c.C, c.A
	add("A and C changed", s, c)
	c = cube()
	c.Inputs = 1
	add("an input", s, c)
}

// By a setup of t and g the points are multiples of the generator by what the index's
// polynomials are worth at t: so sums of commitments open as those polynomials do, by what
// Setup tells.
func TestKeysOpen(t *testing.T) {
	long := made(t, number(great1), number(great2), 100)
	for i, c := range circuits()[:8] {
		s := padded(t, c)
		x := indexed(t, s)
		k := keyOf(t, "key", long, c)
		small := got(t, "read", textOf(t, "key", k)).Setup()
		var cs []group.G1
		var os []open.Opening
		z := el(number(great2))
		for j, p := range commitments(&k) {
			list := [][3][]fr.El{x.Row, x.Col, x.Val}[j/3][j%3]
			o, e := open.Open(long, list, nil, z)
			if e != api.OK || o.V != poly.Eval(list, z) {
				t.Fatal(e)
			}
			if is, e := open.Check(small, *p, z, o); !is || e != api.OK {
				t.Errorf("the circuit %d, the commitment %d: %v, %v", i, j, is, e)
			}
			o.V = o.V.Add(el(whole(1)))
			if is, e := open.Check(small, *p, z, o); is || e != api.OK {
				t.Errorf("the circuit %d, the commitment %d, another value: %v, %v", i, j, is, e)
			}
			o.V = o.V.Sub(el(whole(1)))
			cs, os = append(cs, *p), append(os, o)
		}
		joined, e := batch.Join(z, cs, os, el(whole(7)))
		if e != api.OK {
			t.Fatal(e)
		}
		if is, e := batch.Check(small, []batch.Claim{joined}, el(whole(5))); !is || e != api.OK {
			t.Errorf("the circuit %d, joined: %v, %v", i, is, e)
		}
	}
}

// What a key's points are sums of goes by the index: sums of three lists by the scalars of a
// fold are the fold's.
func TestKeysGoBySums(t *testing.T) {
	s := made(t, whole(6), whole(7), 30)
	f := five{8, 2, 4, 2, 30}
	a, b := anyLists(11, 5), anyLists(12, 9)
	sum := a
	for i := range sum {
		sum[i] = nil
		for j := range 9 {
			k := b[i][j]
			if j < 5 {
				k = plus(k, times(a[i][j], whole(3)))
			}
			sum[i] = append(sum[i], k)
		}
	}
	var l [3]keys.Key
	for i, x := range []index.Index{byHand(f, a), byHand(f, b), byHand(f, sum)} {
		k, e := keys.Make(s, x, 2)
		if e != api.OK {
			t.Fatal(e)
		}
		l[i] = k
	}
	all := commitments(&l[2])
	for i := range 9 {
		three := group.Mul1(*commitments(&l[0])[i], el(whole(3)))
		wantSame1(t, fmt.Sprint("the commitment ", i), group.Curve1().Add(three, *commitments(&l[1])[i]), *all[i])
	}
}

// The numbers of a key of a circuit are such that decide takes them.
func TestNumbersServe(t *testing.T) {
	s := made(t, whole(2), whole(3), 200)
	for i, c := range circuits() {
		k := got(t, "read", textOf(t, "key", keyOf(t, "key", s, c)))
		if _, e := decide.Inputs(k.Z, els(slices.Repeat(wholes(1), k.Inputs)), el(whole(5))); e != api.OK {
			t.Errorf("the circuit %d: %v", i, e)
		}
		if k.Check() != api.OK || k.Inputs != int(c.Inputs) || keys.Need(k.Z) > k.D {
			t.Errorf("the circuit %d: %+v, %d, %d", i, k.Z, k.Inputs, k.D)
		}
	}
}

// The first byte of a point tells which one of two it is: a key has other bytes than that
// of the negative of one point, and that is read.
func TestNegatives(t *testing.T) {
	x := tales()[1]
	b := x.text()
	for i, at := range pointPlaces() {
		turned := slices.Clone(b)
		if turned[at]&128 != 0 {
			continue
		}
		turned[at] ^= 64
		k := got(t, fmt.Sprint("the point ", i), turned)
		y := x
		switch i {
		case 0:
			y.blind = new(big.Int).Neg(x.blind)
		case 1:
			y.tau = new(big.Int).Neg(x.tau)
		default:
			y.c[i-2] = new(big.Int).Neg(x.c[i-2])
		}
		want(t, fmt.Sprint("the negative of the point ", i), k, y)
	}
	if points.Put1(x.key().Blind) == points.Put1(group.Curve1().Neg(x.key().Blind)) {
		t.Error("a point and its negative have the same bytes")
	}
}
