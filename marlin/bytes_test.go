package marlin_test

import (
	"bytes"
	"fmt"
	"math/big"
	"slices"
	"testing"

	"marlinspike/api"
	"marlinspike/fr"
	"marlinspike/marlin"
	"marlinspike/r1cs"
	"marlinspike/srs"
)

// P29.3: the calls that take bytes.

// textOfCircuit are a circuit's bytes, by chapter 22.
func textOfCircuit(c api.Circuit) (b []byte) {
	lay := func(n int) { b = append(b, byte(n>>8), byte(n)) }
	for _, n := range []int{int(c.Rows), int(c.Cols), int(c.Inputs), len(c.A), len(c.B), len(c.C)} {
		lay(n)
	}
	for _, m := range matrices(&c) {
		for _, x := range *m {
			lay(int(x.Row))
			lay(int(x.Col))
			b = append(b, x.Val[:]...)
		}
	}
	return b
}

// hop is a step of a chain, told by what the generators are multiplied by.
type hop struct{ a, d *big.Int }

// hopsOf are the steps by these scalars, from a secret on.
func hopsOf(t *big.Int, ds ...*big.Int) (l []hop) {
	for _, d := range ds {
		t = times(t, d)
		l = append(l, hop{t, d})
	}
	return l
}

// textOfHops are steps' bytes, by chapter 18.
func textOfHops(l []hop) []byte {
	b := []byte{byte(len(l))}
	for _, x := range l {
		b = slices.Concat(b, texts1.tell(x.a), texts2.tell(x.d))
	}
	return b
}

// call is one of those that take bytes: what its lists are, and right ones, of which it
// answers this.
type call struct {
	name   string
	kinds  []string
	lists  [][]byte
	ask    func(l [][]byte) ([]byte, api.Errno)
	answer []byte
}

// told is a call that answers an error alone.
func told(ask func(a, b, c []byte) api.Errno) func(l [][]byte) ([]byte, api.Errno) {
	return func(l [][]byte) ([]byte, api.Errno) { return nil, ask(l[0], l[1], l[2]) }
}

// calls are all four, of a task by the setup of 2 and 3, and, for a chain, of a lesser one.
func calls(t *testing.T, x task) []call {
	t.Helper()
	o, d := expsOf(whole(2), whole(3), needOf(x.c)), counting(drawsFor(x.c))
	w := o.provenBy(t, x, d)
	setup, circuit := o.text(), textOfCircuit(x.c)
	from, to := expsOf(whole(2), whole(3), 1), expsOf(whole(-70), whole(3), 1)
	return []call{
		{"Index", []string{"setup", "circuit"}, [][]byte{setup, circuit},
			func(l [][]byte) ([]byte, api.Errno) { return marlin.Index(l[0], l[1]) }, w.k.text()},
		{"ProveBytes", []string{"setup", "circuit", "scalars", "scalars"}, [][]byte{setup, circuit, textOfScalars(x.z...), textOfScalars(d...)},
			func(l [][]byte) ([]byte, api.Errno) { return marlin.ProveBytes(l[0], l[1], l[2], l[3]) }, w.p.text()},
		{"VerifyBytes", []string{"key", "scalars", "proof"}, [][]byte{w.k.text(), textOfScalars(w.in...), w.p.text()}, told(marlin.VerifyBytes), nil},
		{"CheckSetups", []string{"setup", "setup", "steps"}, [][]byte{from.text(), to.text(), textOfHops(hopsOf(whole(2), wholes(5, -7)...))}, told(marlin.CheckSetups), nil},
	}
}

// want fails if a call does not answer what it must of its right lists, refuse if it does
// not answer this error of others, and nothing beside it.
func (c call) want(t *testing.T, what string) {
	t.Helper()
	if b, e := c.ask(c.lists); e != api.OK || !bytes.Equal(b, c.answer) {
		t.Errorf("%s, %s: %x, %v, not %x", c.name, what, b, e, c.answer)
	}
}

func (c call) refuse(t *testing.T, what string, lists [][]byte, wanted api.Errno) {
	t.Helper()
	if b, e := c.ask(lists); e != wanted || b != nil {
		t.Errorf("%s, %s: %x, %v, not %v", c.name, what, b, e, wanted)
	}
}

// with are a call's lists, but for one.
func (c call) with(i int, b []byte) [][]byte {
	l := slices.Clone(c.lists)
	l[i] = b
	return l
}

// wrong is what stands in place of a list, and what is told of it.
type wrong struct {
	what string
	text []byte
	e    api.Errno
}

// spoilt are bytes with others in place of some.
func spoilt(b []byte, at int, text []byte) []byte {
	b = slices.Clone(b)
	copy(b[at:], text)
	return b
}

// textAt are bytes of so many, all 0 but some.
func textAt(size int, some map[int]byte) []byte {
	b := make([]byte, size)
	for i, x := range some {
		b[i] = x
	}
	return b
}

// wrongPoints are no bytes of a point, of 48 bytes or of 96, one by each error of chapter
// 10: of G2 the x that have no point, and one that is not of the group, are sought.
func wrongPoints(size int) []wrong {
	high := textAt(size, map[int]byte{0: 1, 1: 255})
	l := []wrong{{"of no form", textAt(size, map[int]byte{0: 128, size - 1: 1}), api.ErrForm}, {"of no coordinate", high, api.ErrField}}
	if size == 48 {
		return append(l, wrong{"of no point", textAt(48, map[int]byte{47: 4}), api.ErrCurve}, wrong{"not of the group", textAt(48, map[int]byte{47: 2}), api.ErrGroup})
	}
	return append(l, wrong{"of no point", seek2(false), api.ErrCurve}, wrong{"not of the group", seek2(true), api.ErrGroup})
}

// seek2 are the bytes of an x of which G2's curve has a point, that is not of the group, or
// none: x^3 + 1 / u has a root just if its norm is a square.
func seek2(is bool) []byte {
	half := new(big.Int).Rsh(q, 1)
	perU := num{whole(0), whole(1)}.inv()
	for n := int64(1); ; n++ {
		x := num{whole(n), whole(0)}
		y := x.mul(x).mul(x).add(perU)
		norm := byQ(new(big.Int).Add(new(big.Int).Mul(y.a, y.a), new(big.Int).Mul(whole(5), new(big.Int).Mul(y.b, y.b))), new(big.Int))
		if (new(big.Int).Exp(norm.a, half, q).Cmp(whole(1)) == 0) == is {
			return append(make([]byte, 48), whole(n).FillBytes(make([]byte, 48))...)
		}
	}
}

// lengths are a list that is none, one byte alone, one less, and one more.
func lengths(right []byte) []wrong {
	return []wrong{
		{"no bytes", nil, api.ErrShort}, {"an empty list", []byte{}, api.ErrShort}, {"a byte", right[:1], api.ErrShort},
		{"a byte less", right[:len(right)-1], api.ErrShort}, {"a byte more", append(slices.Clone(right), 0), api.ErrLong},
	}
}

// pointsAt are wrong points at places of a right list, of 48 bytes each.
func pointsAt(right []byte, size int, places ...int) (l []wrong) {
	for _, at := range places {
		for _, w := range wrongPoints(size) {
			l = append(l, wrong{fmt.Sprint("a point ", w.what, " at ", at), spoilt(right, at, w.text), w.e})
		}
	}
	return l
}

// wrongs are lists of a kind that are no good, by all errors that there are.
func wrongs(kind string, right []byte) []wrong {
	switch kind {
	case "setup":
		n := len(right)/96 - 1 // as many powers as blinds, and Tau
		l := append(lengths(right), wrong{"the degree 0", spoilt(right, 0, []byte{0, 0}), api.ErrArg}, wrong{"the degree 16385", spoilt(right, 0, []byte{64, 1}), api.ErrArg}, wrong{"two bytes 255", []byte{255, 255}, api.ErrArg})
		return append(append(l, pointsAt(right, 48, 2, 2+48, 2+48*(n-1), 2+48*n, len(right)-96-48)...), pointsAt(right, 96, len(right)-96)...)
	case "circuit":
		return append(lengths(right), wrong{"no rows", spoilt(right, 0, []byte{0, 0}), api.ErrArg}, wrong{"no inputs", spoilt(right, 4, []byte{0, 0}), api.ErrArg},
			wrong{"4097 entries", spoilt(right, 8, []byte{16, 1}), api.ErrLong}, wrong{"a row out of bounds", spoilt(right, 12, right[:2]), api.ErrIndex},
			wrong{"no scalar", spoilt(right, 16, scalarText(r)), api.ErrField}, wrong{"a last 0", spoilt(right, len(right)-32, make([]byte, 32)), api.ErrZero})
	case "scalars":
		last := len(right) - 32
		return []wrong{
			{"a byte", right[:1], api.ErrShort}, {"31 bytes", right[:31], api.ErrShort}, {"33 bytes", right[:33], api.ErrShort},
			{"a byte less", right[:len(right)-1], api.ErrShort}, {"a byte more", append(slices.Clone(right), 0), api.ErrShort}, {"a byte less ahead", right[1:], api.ErrShort},
			{"r ahead, and a byte more", append(spoilt(right, 0, scalarText(r)), 1), api.ErrShort},
			{"r ahead", spoilt(right, 0, scalarText(r)), api.ErrField}, {"r at the end", spoilt(right, last, scalarText(r)), api.ErrField},
			{"32 bytes 255 ahead", spoilt(right, 0, bytes.Repeat([]byte{255}, 32)), api.ErrField}, {"32 bytes 255 at the end", spoilt(right, last, bytes.Repeat([]byte{255}, 32)), api.ErrField},
			{"32 bytes 255 alone", bytes.Repeat([]byte{255}, 32), api.ErrField}, {"r, and no more", scalarText(r), api.ErrField},
			{"r behind all", append(slices.Clone(right), scalarText(r)...), api.ErrField},
		}
	case "key":
		l := append(lengths(right), wrong{"N of 3", spoilt(right, 0, []byte{0, 0, 0, 3}), api.ErrSize}, wrong{"no inputs", spoilt(right, 12, []byte{0, 0}), api.ErrArg}, wrong{"a D of 11", spoilt(right, 14, []byte{0, 11}), api.ErrDegree})
		return append(append(l, pointsAt(right, 48, 16, 160, 544)...), pointsAt(right, 96, 64)...)
	case "proof":
		return append(append(lengths(right), pointsAt(right, 48, 0, 48, 480, 1136, 1184)...),
			wrong{"a value of r", spoilt(right, 528, scalarText(r)), api.ErrField}, wrong{"Blind of r", spoilt(right, 1104, scalarText(r)), api.ErrField})
	}
	l := append(lengths(right), wrong{"33 steps", append([]byte{33}, make([]byte, 33*144)...), api.ErrLong}, wrong{"a step more", spoilt(right, 0, []byte{right[0] + 1}), api.ErrShort}, wrong{"a step less", spoilt(right, 0, []byte{right[0] - 1}), api.ErrLong})
	return append(append(l, pointsAt(right, 48, 1, len(right)-144)...), pointsAt(right, 96, 49, len(right)-96)...)
}

// scalarText are the 32 bytes of a number, also of r or above.
func scalarText(n *big.Int) []byte { return n.FillBytes(make([]byte, 32)) }

func TestCalls(t *testing.T) {
	for i, x := range []task{square(), cube()} {
		for _, c := range calls(t, x) {
			c.want(t, fmt.Sprint("the circuit ", i))
		}
	}
}

// Each list alone is no good, by each error, wherever it is.
func TestWrongLists(t *testing.T) {
	for i, x := range []task{square(), cube()} {
		for _, c := range calls(t, x) {
			for j, kind := range c.kinds {
				l := wrongs(kind, c.lists[j])
				together(len(l), func(m int) {
					c.refuse(t, fmt.Sprintf("the circuit %d, the %s %d: %s", i, kind, j, l[m].what), c.with(j, l[m].text), l[m].e)
				})
			}
		}
	}
}

// Two lists are no good at once: the first one's error goes ahead, whatever both are.
func TestTwoWrongLists(t *testing.T) {
	for _, c := range calls(t, square()) {
		unlike := 0
		for j := range c.kinds {
			behind := oneByEach(wrongs(c.kinds[j], c.lists[j]))
			for i := range j {
				ahead := oneByEach(wrongs(c.kinds[i], c.lists[i]))
				together(len(ahead)*len(behind), func(m int) {
					first, second := ahead[m/len(behind)], behind[m%len(behind)]
					lists := c.with(i, first.text)
					lists[j] = second.text
					c.refuse(t, fmt.Sprintf("the %s %d, %s, and the %s %d, %s", c.kinds[i], i, first.what, c.kinds[j], j, second.what), lists, first.e)
				})
				for _, first := range ahead {
					for _, second := range behind {
						if first.e != second.e {
							unlike++
						}
					}
				}
			}
		}
		if unlike < 8 {
			t.Errorf("%s: only %d of unlike errors", c.name, unlike)
		}
		if len(c.kinds) > 2 { // all of them at once
			lists := make([][]byte, len(c.kinds))
			for i, kind := range c.kinds {
				l := wrongs(kind, c.lists[i])
				lists[i] = l[len(l)-1].text
			}
			l := wrongs(c.kinds[0], c.lists[0])
			c.refuse(t, "all lists", lists, l[len(l)-1].e)
		}
	}
}

// oneByEach are the last of all wrongs by each error.
func oneByEach(l []wrong) (some []wrong) {
	for i, w := range l {
		if !slices.ContainsFunc(l[i+1:], func(x wrong) bool { return x.e == w.e }) {
			some = append(some, w)
		}
	}
	return some
}

// Scalars' bytes of all lengths: no multiple of 32 is ErrShort, also where a scalar is none;
// another one is so many scalars.
func TestScalarsOfOtherLengths(t *testing.T) {
	for _, c := range calls(t, square()) {
		for i, kind := range c.kinds {
			if kind != "scalars" {
				continue
			}
			long := len(c.lists[i])
			right := slices.Concat(c.lists[i], make([]byte, 100))
			l := []int{2, 8, 15, 16, 17, 30, 47, 48, 49, 63, 65, 80, long - 33, long - 31, long - 16, long - 8, long + 2, long + 16, long + 31, long + 33, long + 48}
			for _, n := range append(l, long-32, long+32, long+64, long+96) {
				wanted := api.ErrArg
				if n%32 > 0 {
					wanted = api.ErrShort
					c.refuse(t, fmt.Sprintf("the list %d of %d bytes 255", i, n), c.with(i, bytes.Repeat([]byte{255}, n)), wanted)
				}
				c.refuse(t, fmt.Sprintf("the list %d of %d bytes", i, n), c.with(i, right[:n]), wanted)
			}
		}
	}
}

// All lists of no length.
func TestNoLists(t *testing.T) {
	for _, c := range calls(t, square()) {
		c.refuse(t, "no lists", make([][]byte, len(c.kinds)), api.ErrShort)
	}
}

// refuseBeside fails if a list that is no good does not go ahead of another one, of one
// part, that is good but is refused.
func (c call) refuseBeside(t *testing.T, what string, refused int, text []byte) {
	t.Helper()
	for part, kind := range c.kinds {
		if part == refused {
			continue
		}
		for _, w := range oneByEach(wrongs(kind, c.lists[part])) {
			lists := c.with(refused, text)
			lists[part] = w.text
			c.refuse(t, fmt.Sprint(what, ", the ", kind, ", ", w.what), lists, w.e)
		}
	}
}

// What Prove refuses is refused of its bytes likewise; and a list that is no good goes ahead
// of that.
func TestProveBytesTellsWhatProveTells(t *testing.T) {
	for i, x := range []task{square(), cube()} {
		c := calls(t, x)[1]
		need := needOf(x.c)
		small := expsOf(whole(2), whole(3), need-1).text()
		n := len(x.z)
		scalars := func(l []*big.Int) []byte { return textOfScalars(l...) }
		d := counting(drawsFor(x.c))
		type one struct {
			what string
			part int
			text []byte
			e    api.Errno
		}
		l := []one{
			{"no draws", 3, nil, api.ErrArg}, {"an empty list of draws", 3, []byte{}, api.ErrArg},
			{"a draw less", 3, scalars(d[1:]), api.ErrArg}, {"a draw more", 3, scalars(append(slices.Clone(d), whole(0))), api.ErrArg},
			{"no assignment", 2, nil, api.ErrArg}, {"an empty assignment", 2, []byte{}, api.ErrArg},
			{"a scalar less", 2, scalars(x.z[:n-1]), api.ErrArg}, {"a scalar more", 2, scalars(append(slices.Clone(x.z), whole(0))), api.ErrArg},
			{"a first scalar of 2", 2, scalars(append(wholes(2), x.z[1:]...)), api.ErrCheck},
			{"another input", 2, scalars(slices.Concat(x.z[:1], wholes(8), x.z[2:])), api.ErrCheck},
			{"the need less 1", 0, small, api.ErrDegree},
		}
		together(len(l), func(j int) {
			f := l[j]
			c.refuse(t, fmt.Sprint("the circuit ", i, ", ", f.what), c.with(f.part, f.text), f.e)
			for _, g := range l[j+1:] {
				if g.part != f.part {
					lists := c.with(f.part, f.text)
					lists[g.part] = g.text
					c.refuse(t, fmt.Sprint("the circuit ", i, ", ", f.what, ", ", g.what), lists, f.e)
				}
			}
			c.refuseBeside(t, fmt.Sprint("the circuit ", i, ", ", f.what), f.part, f.text)
		})
		index := calls(t, x)[0]
		index.refuse(t, "the need less 1", index.with(0, small), api.ErrDegree)
	}
}

// What Verify refuses is refused of its bytes likewise; and a list that is no good goes
// ahead of that.
func TestVerifyBytesTellsWhatVerifyTells(t *testing.T) {
	for i, x := range []task{square(), cube()} {
		c := calls(t, x)[2]
		zero := spoilt(spoilt(c.lists[2], 528, make([]byte, 19*32)), 0, texts1.tell(whole(0)))
		for _, f := range []struct {
			what string
			part int
			text []byte
			e    api.Errno
		}{
			{"no inputs", 1, nil, api.ErrArg}, {"an empty list of inputs", 1, []byte{}, api.ErrArg},
			{"an input less", 1, c.lists[1][:32], api.ErrArg}, {"an input more", 1, append(slices.Clone(c.lists[1]), make([]byte, 32)...), api.ErrArg},
			{"a first input of 2", 1, spoilt(c.lists[1], 31, []byte{2}), api.ErrReject}, {"a first input of 0", 1, spoilt(c.lists[1], 31, []byte{0}), api.ErrReject},
			{"another input", 1, spoilt(c.lists[1], 63, []byte{8}), api.ErrReject}, {"an input of r - 1", 1, spoilt(c.lists[1], 32, scalarText(minus(1))), api.ErrReject},
			{"another proof", 2, zero, api.ErrReject}, {"another D", 0, spoilt(c.lists[0], 14, []byte{1}), api.ErrReject},
			{"another point of the key", 0, spoilt(c.lists[0], 160, texts1.tell(whole(0))), api.ErrReject},
		} {
			c.refuse(t, fmt.Sprint("the circuit ", i, ", ", f.what), c.with(f.part, f.text), f.e)
			c.refuseBeside(t, fmt.Sprint("the circuit ", i, ", ", f.what), f.part, f.text)
		}
	}
}

// 0 and r - 1 may be, as draws, in an assignment, and as inputs.
func TestEdgeScalars(t *testing.T) {
	x := square()
	for i, z := range [][]*big.Int{{whole(1), whole(1), minus(1)}, wholes(1, 0, 0), {whole(1), whole(1), whole(1)}} {
		x.z = z
		for j, k := range []*big.Int{whole(0), minus(1)} {
			o, d := expsOf(minus(1), whole(3), 12), repeat(k, 19)
			w := o.provenBy(t, x, d)
			b, e := marlin.ProveBytes(o.text(), textOfCircuit(x.c), textOfScalars(z...), textOfScalars(d...))
			if e != api.OK || !bytes.Equal(b, w.p.text()) {
				t.Errorf("%d, %d: %v", i, j, e)
			}
			if e := marlin.VerifyBytes(w.k.text(), textOfScalars(w.in...), b); e != api.OK {
				t.Errorf("%d, %d: VerifyBytes: %v", i, j, e)
			}
		}
	}
	lin := task{api.Circuit{Rows: 1, Cols: 2, Inputs: 2, A: entries([3]int64{0, 1, 1}), B: entries([3]int64{0, 0, 1}), C: entries([3]int64{0, 1, 1})}, []*big.Int{whole(1), minus(1)}}
	o := expsOf(whole(5), minus(1), needOf(lin.c))
	w := o.provenBy(t, lin, repeat(minus(1), drawsFor(lin.c)))
	wantVerdictOfBytes(t, "an input of r - 1", w.question(), api.OK)
}

// Of many circuits and setups, good ones or not: the calls that take bytes tell what those
// do that take what the bytes are.
func TestBytesAgainstWhatTheyAre(t *testing.T) {
	l := tasks()[:12]
	together(len(l), func(i int) {
		x, s := l[i], numbers{state: uint64(900 + i)}
		o := loose(needOf(x.c) + i%2)
		if i%3 > 0 {
			o = expsOf(s.big(), s.big(), needOf(x.c)+i%2)
		}
		d := s.draws(x.c)
		setup, e := srs.Get(o.text())
		c, wrong := r1cs.Get(textOfCircuit(x.c))
		if e != api.OK || wrong != api.OK {
			t.Errorf("the circuit %d: %v, %v", i, e, wrong)
			return
		}
		k := keyOf(t, fmt.Sprint("the circuit ", i), setup, c)
		text, e := k.Bytes()
		key, wrong := marlin.Index(o.text(), textOfCircuit(x.c))
		if e != api.OK || wrong != api.OK || !bytes.Equal(text, key) {
			t.Errorf("the circuit %d: Index: %x, %v, %v, not %x", i, key, e, wrong, text)
		}
		p, e := marlin.Prove(setup, c, els(x.z), els(d))
		b, wrong := marlin.ProveBytes(o.text(), textOfCircuit(x.c), textOfScalars(x.z...), textOfScalars(d...))
		if e != api.OK || wrong != api.OK || !bytes.Equal(p.Bytes(), b) {
			t.Errorf("the circuit %d: ProveBytes: %x, %v, %v, not %x", i, b, e, wrong, p.Bytes())
		}
		in := x.z[:x.c.Inputs]
		e = marlin.Verify(k, els(in), p)
		if again := marlin.VerifyBytes(key, textOfScalars(in...), b); again != e || (e == api.OK) != (i%3 > 0) {
			t.Errorf("the circuit %d: VerifyBytes: %v, not %v", i, again, e)
		}
		in = append(slices.Clone(in), whole(0))
		e = marlin.Verify(k, els(in), p)
		if again := marlin.VerifyBytes(key, textOfScalars(in...), b); again != e || e != api.ErrArg {
			t.Errorf("the circuit %d, of an input more: VerifyBytes: %v, not %v", i, again, e)
		}
	})
}

// Index asks neither whether the setup is good, nor for an assignment.
func TestIndexOfAnySetup(t *testing.T) {
	x := cube()
	for i, o := range []exps{loose(24), {repeat(whole(0), 25), repeat(whole(0), 25), whole(0)}, {repeat(whole(7), 26), repeat(whole(0), 26), whole(1)}} {
		wanted := keyTaleOf(padded(t, x.c), indexedOf(padded(t, x.c)), o)
		b, e := marlin.Index(o.text(), textOfCircuit(x.c))
		if e != api.OK {
			t.Errorf("%d: %v", i, e)
		}
		wantKey(t, fmt.Sprint("the setup ", i), b, wanted)
	}
}

// 2049 entries have no key, by whatever setup.
func TestIndexOfTooManyEntries(t *testing.T) {
	c := sketch{1000, 1000, 1, 2049, 1, 0}.even().c
	setup, e := ones(whole(3), 300).Bytes()
	if e != api.OK {
		t.Fatal(e)
	}
	if b, e := marlin.Index(setup, textOfCircuit(c)); e != api.ErrDegree || b != nil {
		t.Errorf("Index: %x, %v", b, e)
	}
	d := make([]fr.El, drawsFor(c))
	x := sketch{1000, 1000, 1, 2049, 1, 0}.even()
	if b, e := marlin.ProveBytes(setup, textOfCircuit(c), textOfScalars(x.z...), textOfScalars(backs(d)...)); e != api.ErrDegree || b != nil {
		t.Errorf("ProveBytes: %x, %v", b, e)
	}
}
