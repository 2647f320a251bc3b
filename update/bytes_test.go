package update_test

import (
	"bytes"
	"fmt"
	"math/big"
	"slices"
	"testing"

	"marlinspike/api"
	"marlinspike/group"
	"marlinspike/points"
	"marlinspike/srs"
	"marlinspike/update"
)

// P18.3

// drawn are so many steps of any points: whether they are a chain is not asked.
func drawn(state uint64, count int) (l []hop) {
	s := numbers{state: state}
	for i := range count {
		switch i % 5 {
		case 1:
			l = append(l, hop{whole(0), whole(0)})
		case 3:
			l = append(l, hop{whole(int64(i)), whole(int64(-i))})
		default:
			l = append(l, hop{s.big(), s.big()})
		}
	}
	return l
}

func TestBytes(t *testing.T) {
	for _, count := range []int{0, 1, 2, 3, 7, api.MaxChain - 1, api.MaxChain} {
		hops := drawn(uint64(count), count)
		if b := stepsBytes(t, steps(hops)); !bytes.Equal(b, hopTexts(hops)) {
			t.Errorf("of %d steps: %x, not %x", count, b, hopTexts(hops))
		}
	}
	chain := hopsOf(whole(2), scalars()...)
	if b := stepsBytes(t, steps(chain)); !bytes.Equal(b, hopTexts(chain)) {
		t.Errorf("of a chain: %x, not %x", b, hopTexts(chain))
	}
	for i := range ways {
		all := steps(drawn(9, 5))
		for j := range all {
			all[j] = otherStep(all[j], i)
		}
		if b := stepsBytes(t, all); !bytes.Equal(b, hopTexts(drawn(9, 5))) {
			t.Errorf("of other values, the way %d: %x", i, b)
		}
	}
}

// otherStep is a step of the same points, told by other values.
func otherStep(x update.Step, way int) update.Step {
	return update.Step{A: several(group.Curve1(), gen1, x.A)[way], D: several(group.Curve2(), gen2, x.D)[way]}
}

// Points of the curve that are not of the groups have bytes too.
func TestBytesOfPointsOfNoGroup(t *testing.T) {
	a, d := outside1(), outside2()
	x, y := points.Put1(a), points.Put2(d)
	if b := stepsBytes(t, []update.Step{{A: a, D: d}}); !bytes.Equal(b, slices.Concat([]byte{1}, x[:], y[:])) {
		t.Errorf("it is %x", b)
	}
	refuse(t, "A is not of the group", slices.Concat([]byte{1}, x[:], text2(whole(1))), api.ErrGroup)
	refuse(t, "D is not of the group", slices.Concat([]byte{1}, text1(whole(1)), y[:]), api.ErrGroup)
}

func TestBytesRefuses(t *testing.T) {
	for _, count := range []int{api.MaxChain + 1, api.MaxChain + 2, 64, 127, 128, 255, 256, 257, 288, 289, 1 << 16} {
		for _, l := range [][]update.Step{make([]update.Step, count), slices.Repeat([]update.Step{{A: gen1, D: gen2}}, count)} {
			if b, e := update.Bytes(l); len(b) > 0 || e != api.ErrLong {
				t.Errorf("of %d steps: %x, %v", count, b, e)
			}
		}
	}
}

func TestGet(t *testing.T) {
	for _, count := range []int{0, 1, 2, 3, 7, api.MaxChain - 1, api.MaxChain} {
		hops := drawn(uint64(count), count)
		wantSteps(t, fmt.Sprint("of ", count), got(t, hopTexts(hops)), hops)
	}
	chain := hopsOf(whole(2), scalars()...)
	wantSteps(t, "of a chain", got(t, hopTexts(chain)), chain)
}

// Of each number of bytes.
func TestGetOfAnyLength(t *testing.T) {
	for _, count := range []int{0, 1, 2, 4} {
		all := append(hopTexts(drawn(3, count)), make([]byte, 300)...)
		right := 1 + 144*count
		for length := range len(all) + 1 {
			switch b := all[:length:length]; {
			case length < right:
				refuse(t, fmt.Sprint(length, " bytes"), b, api.ErrShort)
			case length > right:
				refuse(t, fmt.Sprint(length, " bytes"), b, api.ErrLong)
			default:
				wantSteps(t, fmt.Sprint(length, " bytes"), got(t, b), drawn(3, count))
			}
		}
	}
	refuse(t, "nil", nil, api.ErrShort)
	refuse(t, "two chains", slices.Repeat(hopTexts(drawn(1, 1)), 2), api.ErrLong)
	refuse(t, "two empty ones", []byte{0, 0}, api.ErrLong)
}

// counted are bytes that begin with a count; all points are wrong.
func counted(n, length int) []byte {
	b := bytes.Repeat([]byte{255}, length)
	b[0] = byte(n)
	return b
}

// The count is asked for ahead of the length, and the length ahead of the points.
func TestGetOfAnyCount(t *testing.T) {
	for n := range 256 {
		right := 1 + 144*n
		for _, length := range []int{1, 2, 48, 49, 96, 97, 144, 145, 146, 289, 1 + 144*api.MaxChain, 2 + 144*api.MaxChain, right - 144, right - 1, right, right + 1, right + 144, right + 5000} {
			if length < 1 {
				continue
			}
			e := api.ErrForm
			switch {
			case n > api.MaxChain:
				e = api.ErrLong
			case length < right:
				e = api.ErrShort
			case length > right:
				e = api.ErrLong
			case n == 0:
				continue // all is right
			}
			refuse(t, fmt.Sprintf("%d bytes, of the count %d", length, n), counted(n, length), e)
		}
	}
}

// flaw is a point's bytes that are not read.
type flaw struct {
	text []byte
	e    api.Errno
}

// laid are so many bytes, with others at places.
func laid(length int, at map[int]byte) []byte {
	b := make([]byte, length)
	for i, x := range at {
		b[i] = x
	}
	return b
}

const flawKinds = 5

// flaws are of a point of G1, or, of 96 bytes, of G2.
func flaws(length int) []flaw {
	l := []flaw{
		{laid(length, map[int]byte{0: 128, length - 1: 1}), api.ErrForm},
		{laid(length, map[int]byte{0: 192}), api.ErrForm},
		{bytes.Repeat([]byte{63}, length), api.ErrField},
	}
	if length == 48 {
		return append(l, flaw{laid(48, map[int]byte{47: 4}), api.ErrCurve}, flaw{laid(48, map[int]byte{47: 2}), api.ErrGroup})
	}
	x1, x2 := laid(96, map[int]byte{47: 1, 95: 1}), laid(96, map[int]byte{47: 1, 95: 2})
	return append(l, flaw{x1, api.ErrCurve}, flaw{x2, api.ErrGroup})
}

// spoilt are bytes in which a point's are others. The points are counted as they
// stand: the A of the step i is 2 i, its D 2 i + 1.
func spoilt(b []byte, i, kind int) ([]byte, api.Errno) {
	b = slices.Clone(b)
	from, length := 1+144*(i/2), 48
	if i%2 == 1 {
		from, length = from+48, 96
	}
	f := flaws(length)[kind]
	copy(b[from:from+length], f.text)
	return b, f.e
}

func TestGetTellsThePointsErrors(t *testing.T) {
	for _, count := range []int{1, 2, 3} {
		b := hopTexts(hopsOf(whole(2), wholes(5, 7, 9)[:count]...))
		for i := range 2 * count {
			for kind := range flawKinds {
				bad, e := spoilt(b, i, kind)
				refuse(t, fmt.Sprintf("of %d steps, the flaw %d of the point %d", count, kind, i), bad, e)
				refuse(t, "and a byte less", bad[:len(bad)-1], api.ErrShort)
				refuse(t, "and a byte more", append(slices.Clip(bad), 0), api.ErrLong)
				bad[0] = api.MaxChain + 1
				refuse(t, "and too many", bad, api.ErrLong)
			}
		}
	}
}

// As many steps as there may be: the first, a middle and the last one's points.
func TestGetTellsThePointsErrorsOfMany(t *testing.T) {
	b := hopTexts(drawn(5, api.MaxChain))
	for _, step := range []int{0, 1, api.MaxChain / 2, api.MaxChain - 2, api.MaxChain - 1} {
		for i := 2 * step; i < 2*step+2; i++ {
			bad, e := spoilt(b, i, i%flawKinds)
			refuse(t, fmt.Sprint("the point ", i), bad, e)
		}
	}
}

func TestGetTellsTheFirstPointsError(t *testing.T) {
	b := hopTexts(hopsOf(whole(2), wholes(5, 7, 9)...))
	for i := range 6 {
		for j := range i {
			for kind := range flawKinds {
				for k := range flawKinds {
					if k == kind {
						continue
					}
					later, _ := spoilt(b, i, k)
					both, e := spoilt(later, j, kind)
					refuse(t, fmt.Sprintf("the flaws %d of the point %d and %d of %d", kind, j, k, i), both, e)
				}
			}
		}
	}
	all := b
	for i := range 6 {
		all, _ = spoilt(all, i, (i+3)%flawKinds)
	}
	refuse(t, "all are flaws", all, flaws(48)[3].e)
}

// Each step's A comes ahead of its D.
func TestGetTakesEachGroupsPoints(t *testing.T) {
	a, d := text1(whole(10)), text2(whole(5))
	if l, e := update.Get(slices.Concat([]byte{1}, d, a)); len(l) > 0 || e == api.OK {
		t.Errorf("%v, %v", l, e)
	}
	if l, e := update.Get(slices.Concat([]byte{2}, a, a, d, d)); len(l) > 0 || e == api.OK {
		t.Errorf("%v, %v", l, e)
	}
}

// asked are what Check is asked.
type asked struct {
	what            string
	from, to, steps []byte
	e               api.Errno
}

// wantChecks fails if Check tells another one.
func wantChecks(t *testing.T, l []asked) {
	t.Helper()
	answers := make([]api.Errno, len(l))
	together(len(l), func(i int) { answers[i] = update.Check(l[i].from, l[i].to, l[i].steps) })
	for i, x := range l {
		if answers[i] != x.e {
			t.Errorf("%s: %v, not %v", x.what, answers[i], x.e)
		}
	}
}

// The bytes of what Chain is asked.
func TestCheck(t *testing.T) {
	var l []asked
	for _, x := range manyChains() {
		l = append(l, asked{x.what, x.from.text(), x.to.text(), hopTexts(x.hops), verdict(x.from, x.to, x.hops)})
	}
	from, hops := expsOf(whole(2), whole(3), 2), hopsOf(whole(2), whole(5), whole(-7))
	to := expsOf(whole(-70), whole(3), 2)
	l = append(l,
		asked{"a chain", from.text(), to.text(), hopTexts(hops), api.OK},
		asked{"without steps", from.text(), to.text(), []byte{0}, api.ErrReject},
		asked{"itself", from.text(), from.text(), []byte{0}, api.OK},
		asked{"the other way round", to.text(), from.text(), hopTexts(hops), api.ErrReject},
		asked{"one step less", from.text(), to.text(), hopTexts(hops[:1]), api.ErrReject},
		asked{"the setups' place", from.text(), from.text(), hopTexts(hops), api.ErrReject},
	)
	wantChecks(t, l)
}

// A chain as long as there may be, and one that is longer.
func TestCheckOfMany(t *testing.T) {
	ds := slices.Repeat([]*big.Int{whole(3), per(whole(3))}, api.MaxChain/2)
	b := expsOf(whole(2), whole(3), 1).text()
	all := hopTexts(hopsOf(whole(2), ds...))
	longer := hopTexts(hopsOf(whole(2), append(slices.Clone(ds), whole(1))...))
	wantChecks(t, []asked{{"as many as may be", b, b, all, api.OK}, {"one more", b, b, longer, api.ErrLong}})
}

// wrongSetups are bytes that srs does not read.
func wrongSetups() []asked {
	right := expsOf(whole(2), whole(3), 1).text()
	field, curve := slices.Clone(right), slices.Clone(right)
	copy(field[2:], flaws(48)[2].text)
	copy(curve[len(curve)-96:], flaws(96)[3].text)
	return []asked{
		{what: "no bytes", from: nil, e: api.ErrShort},
		{what: "of the degree 0", from: append([]byte{0, 0}, right[2:]...), e: api.ErrArg},
		{what: "above the greatest degree", from: []byte{64, 1}, e: api.ErrArg},
		{what: "a byte less", from: right[:len(right)-1], e: api.ErrShort},
		{what: "a byte more", from: append(slices.Clone(right), 0), e: api.ErrLong},
		{what: "above q", from: field, e: api.ErrField},
		{what: "Tau is no point", from: curve, e: api.ErrCurve},
	}
}

// wrongSteps are bytes that Get does not read.
func wrongSteps() []asked {
	right := hopTexts(hopsOf(whole(2), whole(5)))
	form, _ := spoilt(right, 0, 1)
	in, _ := spoilt(right, 1, 4)
	return []asked{
		{what: "no steps' bytes", e: api.ErrShort},
		{what: "steps of a byte less", steps: right[:len(right)-1], e: api.ErrShort},
		{what: "steps of a byte more", steps: append(slices.Clone(right), 0), e: api.ErrLong},
		{what: "too many steps", steps: []byte{api.MaxChain + 1}, e: api.ErrLong},
		{what: "A's form", steps: form, e: api.ErrForm},
		{what: "D's group", steps: in, e: api.ErrGroup},
	}
}

// The first one's error is answered.
func TestCheckRefuses(t *testing.T) {
	from, to, steps := expsOf(whole(2), whole(3), 1).text(), expsOf(whole(10), whole(3), 1).text(), hopTexts(hopsOf(whole(2), whole(5)))
	l := []asked{{"all is right", from, to, steps, api.OK}, {"nothing", nil, nil, nil, api.ErrShort}}
	for _, x := range wrongSetups() {
		l = append(l, asked{x.what + ", the first", x.from, to, steps, x.e}, asked{x.what + ", the second", from, x.from, steps, x.e})
		for _, y := range wrongSetups() {
			l = append(l, asked{x.what + ", the first, and, the second, " + y.what, x.from, y.from, steps, x.e})
			for _, z := range wrongSteps() {
				l = append(l, asked{x.what + ", " + y.what + ", " + z.what, x.from, y.from, z.steps, x.e})
			}
		}
		for _, z := range wrongSteps() {
			l = append(l, asked{x.what + ", the first, and " + z.what, x.from, to, z.steps, x.e})
			l = append(l, asked{x.what + ", the second, and " + z.what, from, x.from, z.steps, x.e})
		}
	}
	for _, z := range wrongSteps() {
		l = append(l, asked{z.what, from, to, z.steps, z.e})
		l = append(l, asked{z.what + ", of no chain", to, from, z.steps, z.e})
	}
	wantChecks(t, l)
}

// What srs tells of bytes, Check tells of them.
func TestCheckTellsWhatSrsDoes(t *testing.T) {
	for _, x := range wrongSetups() {
		if _, e := srs.Get(x.from); e != x.e {
			t.Errorf("%s: %v, not %v", x.what, e, x.e)
		}
	}
}
