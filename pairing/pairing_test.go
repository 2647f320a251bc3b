package pairing_test

import (
	"fmt"
	"slices"
	"strings"
	"testing"

	"marlinspike/api"
	"marlinspike/fq12"
	"marlinspike/fr"
	"marlinspike/group"
	"marlinspike/miller"
	"marlinspike/pairing"
)

// P12.1

func TestLast(t *testing.T) {
	s := numbers{state: 1}
	wantLast(t, "of twelve parts", s.full(8))
	wantLast(t, "of whole numbers", []fq12.El{
		whole(2), whole(-5), whole(1<<62, -1), whole(1, 1), whole(1, -1), whole(1, 0, 0, 0, 0, 0, 1), whole(7, 0, 5), whole(1, 0, 0, 1),
		whole(2, -3, 5, -7, 11, -13, 17, -19, 23, -29, 31, -37), whole(-1, -1, -1, -1, -1, -1, -1, -1, -1, -1, -1, -1),
	})
	g, h := gen1, gen2
	f := miller.Miller(g, h)
	wantLast(t, "of Miller's function", []fq12.El{
		f, f.Neg(), f.Conj(), f.Frob(), miller.Miller(times1(-9), h), miller.Miller(g, times2(12)), miller.Miller(outside1(t)[0], outside2(t)[0]),
	})
	last := pairing.Last(f)
	wantLast(t, "of a last power", []fq12.El{last, last.Conj(), pairing.Last(s.full(1)[0])})
}

func TestLastOfLittle(t *testing.T) {
	if f := pairing.Last(fq12.El{}); !f.IsZero() {
		t.Errorf("of 0 it is %s", digits(f))
	}
	for _, n := range []int64{1, -1, 2, -5, 1 << 62} { // r and q - 1 have no divisor in common
		if f := pairing.Last(fq12.Of(n)); f != one() {
			t.Errorf("of %d it is %s", n, digits(f))
		}
	}
	wantLast(t, "of 0, 1 and -1", []fq12.El{{}, fq12.Of(1), fq12.Of(-1)})
}

// Of each choice of the six parts those that are not 0: by turns of numbers, of
// numbers times u, and of both; then each coordinate alone.
func TestLastOfSomeParts(t *testing.T) {
	s := numbers{state: 2}
	var l []fq12.El
	for parts := 1; parts < 64; parts++ {
		l = append(l, s.shaped([]int{parts, parts << 6, parts | parts<<6}[parts%3]))
	}
	wantLast(t, "the parts", l)
	l = nil
	for place := range 12 {
		l = append(l, s.shaped(1<<place))
	}
	wantLast(t, "the coordinate", l)
}

// Numbers that were worked out apart from the program.
func TestByNumbers(t *testing.T) {
	g, h, out := gen1, gen2, outside2(t)[0]
	table := []struct {
		what string
		got  fq12.El
		text string
	}{
		{"Last of 2 - 3 w ..", pairing.Last(whole(2, -3, 5, -7, 11, -13, 17, -19, 23, -29, 31, -37)), textOfNumber},
		{"Last of 1 + w", pairing.Last(whole(1, 1)), textOfTwo},
		{"Pair of the generators", pairing.Pair(g, h), textOfGenerators},
		{"Pair of 5 and -7", pairing.Pair(times1(5), times2(-7)), textOfMultiples},
		{"Pair of (2, 3) and x = 2 + u", pairing.Pair(point1(t, 2, 3), out), textOfOutside},
		{"Pair of 1 and x = 2 + u", pairing.Pair(g, out), textOfHalf},
	}
	for _, row := range table {
		got := strings.Fields(digits(row.got))
		if text := strings.Fields(row.text); !slices.Equal(got, text) {
			t.Errorf("%s: %s, not %s", row.what, got, text)
		}
	}
}

// wantPair fails if a pairing isn't the last power of Miller's function.
func wantPair(t *testing.T, what string, p group.G1, q group.G2) {
	t.Helper()
	if got, f := pairing.Pair(p, q), pairing.Last(miller.Miller(p, q)); got != f {
		t.Errorf("%s: Pair is %s, not %s", what, digits(got), digits(f))
	}
}

func TestPair(t *testing.T) {
	g, h, l := gen1, gen2, scalars()
	wantPair(t, "the generators", g, h)
	for i, a := range l {
		b := l[(5*i+3)%len(l)]
		wantPair(t, fmt.Sprint(a.Nat(), " and ", b.Nat()), group.Mul1(g, a), group.Mul2(h, b))
		wantPair(t, fmt.Sprint(a.Nat(), " and 1"), group.Mul1(g, a), h)
		wantPair(t, fmt.Sprint("1 and ", a.Nat()), g, group.Mul2(h, a))
	}
	for i, a := range l[:4] { // held against the power itself, once more
		p, q := group.Mul1(g, a), group.Mul2(h, l[i+5])
		if got, f := pairing.Pair(p, q), power(miller.Miller(p, q), exponent()); got != f {
			t.Errorf("%v and %v: Pair is %s, not %s", a.Nat(), l[i+5].Nat(), digits(got), digits(f))
		}
	}
}

func TestPairOfTheFarOne(t *testing.T) {
	ask := func(p group.G1, q group.G2) {
		if f := pairing.Pair(p, q); f != one() {
			t.Errorf("of %v and %v it is %s", p, q, digits(f))
		}
	}
	for _, p := range far1(t) {
		ask(p, gen2)
		ask(p, times2(-6))
		ask(p, outside2(t)[1])
		for _, q := range far2() {
			ask(p, q)
		}
	}
	for _, q := range far2() {
		ask(gen1, q)
		ask(times1(-6), q)
		ask(outside1(t)[1], q)
	}
}

// Points of either curve, and of both, that are not of the group.
func TestPairOfWhatIsOutside(t *testing.T) {
	g, h, out1, out2 := gen1, gen2, outside1(t), outside2(t)
	for i, p := range out1 {
		wantPair(t, fmt.Sprint("the point ", i, " and 1"), p, h)
		wantPair(t, fmt.Sprint("the point ", i, " and -3"), p, times2(-3))
	}
	for i, q := range out2 {
		wantPair(t, fmt.Sprint("1 and the point ", i), g, q)
		wantPair(t, fmt.Sprint("-3 and the point ", i), times1(-3), q)
		wantPair(t, fmt.Sprint("both outside, ", i), out1[i], q)
	}
	p, q := out1[7], out2[1]
	for _, f := range [][2]fq12.El{
		{pairing.Pair(p, h), miller.Miller(p, h)}, {pairing.Pair(g, q), miller.Miller(g, q)}, {pairing.Pair(p, q), miller.Miller(p, q)},
	} {
		if want := power(f[1], exponent()); f[0] != want {
			t.Errorf("Pair is %s, not %s", digits(f[0]), digits(want))
		}
	}
}

// One point told by several values.
func TestPairOfSeveralValues(t *testing.T) {
	g, h := gen1, gen2
	for _, row := range []struct {
		p group.G1
		q group.G2
	}{{times1(12), times2(-5)}, {outside1(t)[0], outside2(t)[0]}} {
		f := pairing.Pair(row.p, row.q)
		qs := several(t, group.Curve2(), h, row.q)
		for i, v := range several(t, group.Curve1(), g, row.p) {
			for _, u := range []group.G2{row.q, qs[i]} {
				if got := pairing.Pair(v, u); got != f {
					t.Errorf("of %v and %v it is %s, not %s", v, u, digits(got), digits(f))
				}
			}
			wantProduct(t, fmt.Sprint("the value ", i), []group.G1{v, row.p}, []group.G2{qs[i], qs[0]}, f.Mul(f))
		}
	}
}

// P12.2

func TestProduct(t *testing.T) {
	g, h, l := gen1, gen2, scalars()
	var ps []group.G1
	var qs []group.G2
	for i, a := range l[:6] {
		ps, qs = append(ps, group.Mul1(g, a)), append(qs, group.Mul2(h, l[(7*i+4)%len(l)]))
		wantProduct(t, fmt.Sprint("the first ", i+1), ps, qs, byHand(ps, qs))
		wantProduct(t, fmt.Sprint("the pair ", i), ps[i:], qs[i:], pairing.Pair(ps[i], qs[i]))
	}
	f := byHand(ps, qs)
	slices.Reverse(ps)
	wantProduct(t, "one list turned", ps, qs, byHand(ps, qs))
	slices.Reverse(qs)
	wantProduct(t, "both turned", ps, qs, f)
	wantProduct(t, "each twice", append(ps, ps...), append(qs, qs...), f.Mul(f))
	wantProduct(t, "one thrice", []group.G1{g, g, g}, []group.G2{h, h, h}, power(pairing.Pair(g, h), atX(3)))
}

// Points go with those at the same places: with others they come to another
// power of the generators' pairing.
func TestProductGoesByPlaces(t *testing.T) {
	e := pairing.Pair(gen1, gen2)
	for _, row := range []struct {
		as, bs []int64
		sum    int64
	}{
		{[]int64{1, 2}, []int64{1, 3}, 7}, {[]int64{2, 1}, []int64{1, 3}, 5}, {[]int64{1, 2, 4}, []int64{1, 5, 25}, 111}, {[]int64{4, 2, 1}, []int64{1, 5, 25}, 39},
		{[]int64{6}, []int64{-7}, -42}, {[]int64{1, 1}, []int64{1, -2}, -1}, {[]int64{0, 3, 0}, []int64{4, 5, 0}, 15},
	} {
		var ps []group.G1
		var qs []group.G2
		for i := range row.as {
			ps, qs = append(ps, times1(row.as[i])), append(qs, times2(row.bs[i]))
		}
		wantProduct(t, fmt.Sprint(row.as, row.bs), ps, qs, e.Pow(fr.Of(row.sum).Nat()))
	}
}

// Of no points, nil or empty or with room behind their end, it is 1.
func TestProductOfNone(t *testing.T) {
	spare1, spare2 := []group.G1{gen1}, []group.G2{gen2, gen2}
	for _, ps := range [][]group.G1{nil, {}, spare1[:0]} {
		for _, qs := range [][]group.G2{nil, {}, spare2[:0]} {
			if f, e := pairing.Product(ps, qs); f != one() || e != api.OK {
				t.Errorf("Product is %s, %v", digits(f), e)
			}
			if is, e := pairing.IsOne(ps, qs); !is || e != api.OK {
				t.Errorf("IsOne is %v, %v", is, e)
			}
		}
	}
}

// The far one, in whatever place of either list, brings 1.
func TestProductWithTheFarOne(t *testing.T) {
	g, h := gen1, gen2
	f := pairing.Pair(times1(3), times2(4))
	wantProduct(t, "the zero Points", []group.G1{{}}, []group.G2{{}}, one())
	for i, p := range far1(t) {
		wantProduct(t, fmt.Sprint("the first one, ", i), []group.G1{p, times1(3)}, []group.G2{h, times2(4)}, f)
		wantProduct(t, fmt.Sprint("the last one, ", i), []group.G1{times1(3), p}, []group.G2{times2(4), h}, f)
		wantProduct(t, fmt.Sprint("alone, ", i), []group.G1{p}, []group.G2{h}, one())
	}
	for i, q := range far2() {
		wantProduct(t, fmt.Sprint("the first one of the second list, ", i), []group.G1{g, times1(3)}, []group.G2{q, times2(4)}, f)
		wantProduct(t, fmt.Sprint("in the middle, ", i), []group.G1{times1(3), g, g}, []group.G2{times2(4), q, h}, f.Mul(pairing.Pair(g, h)))
		wantProduct(t, fmt.Sprint("of both, ", i), []group.G1{times1(3), far1(t)[i], g}, []group.G2{times2(4), q, q}, f)
		wantProduct(t, fmt.Sprint("of both, alone, ", i), []group.G1{far1(t)[i], g}, []group.G2{q, q}, one())
	}
}

func TestProductOfWhatIsOutside(t *testing.T) {
	g, h, out1, out2 := gen1, gen2, outside1(t), outside2(t)
	for i, q := range out2 {
		ps, qs := []group.G1{g, out1[i], out1[i+1]}, []group.G2{q, h, out2[(i+2)%len(out2)]}
		f := byHand(ps, qs)
		if f == one() {
			t.Errorf("%d: the product is 1", i)
		}
		wantProduct(t, fmt.Sprint("points that are not of the groups, ", i), ps, qs, f)
		undone := append(slices.Clone(ps), group.Curve1().Neg(g))
		wantProduct(t, fmt.Sprint("undone, ", i), undone, append(qs, q), byHand(undone, append(qs, q)))
	}
}

func TestIsOne(t *testing.T) {
	g, h := gen1, gen2
	table := []struct {
		ps   []group.G1
		qs   []group.G2
		want bool
	}{
		{[]group.G1{g, times1(-1)}, []group.G2{h, h}, true},
		{[]group.G1{g, g}, []group.G2{h, times2(-1)}, true},
		{[]group.G1{g, times1(-1)}, []group.G2{h, times2(-1)}, false},
		{[]group.G1{g, g}, []group.G2{h, h}, false},
		{[]group.G1{g}, []group.G2{h}, false},
		{[]group.G1{times1(-1)}, []group.G2{times2(-1)}, false},
		{[]group.G1{g, times1(-2)}, []group.G2{times2(2), h}, true},
		{[]group.G1{g, times1(-2)}, []group.G2{times2(3), h}, false},
		{[]group.G1{g, times1(-2)}, []group.G2{h, times2(2)}, false},
		{[]group.G1{times1(6), times1(7), times1(-1)}, []group.G2{times2(7), times2(-5), times2(7)}, true},
		{[]group.G1{times1(6), times1(7), times1(-1)}, []group.G2{times2(7), times2(-5), times2(8)}, false},
		{[]group.G1{g, {}, times1(-1), g}, []group.G2{h, h, h, {}}, true},
		{[]group.G1{g, {}, {}}, []group.G2{h, h, {}}, false},
		{[]group.G1{{}, {}}, []group.G2{h, {}}, true},
	}
	for i, row := range table {
		if is, e := pairing.IsOne(row.ps, row.qs); is != row.want || e != api.OK {
			t.Errorf("%d: %v, %v", i, is, e)
		}
		wantProduct(t, fmt.Sprint("the row ", i), row.ps, row.qs, byHand(row.ps, row.qs))
	}
}

// Lists of unlike lengths are refused, even where the room behind the shorter
// one's end holds points.
func TestUnlikeLengths(t *testing.T) {
	g, h := gen1, gen2
	ps, qs := []group.G1{g, {}, times1(-1), times1(4)}, []group.G2{h, {}, h, {}}
	for i := range len(ps) + 1 {
		for j := range len(qs) + 1 {
			if i != j {
				refused(t, ps[:i], qs[:j])
				refused(t, ps[len(ps)-i:], qs[:j:j])
			}
		}
	}
	refused(t, nil, qs[:1])
	refused(t, []group.G1{}, qs)
	refused(t, ps[:1], nil)
	refused(t, ps, []group.G2{})
	refused(t, make([]group.G1, 3), nil)
	refused(t, nil, make([]group.G2, 3))
}

// The document's examples.
func TestExamples(t *testing.T) {
	g, h := gen1, gen2
	if f := pairing.Pair(group.G1{}, h); f != fq12.Of(1) {
		t.Errorf("of the far one and Gen2: %s", digits(f))
	}
	if f, e := pairing.Product(nil, nil); f != fq12.Of(1) || e != api.OK {
		t.Errorf("of none: %s, %v", digits(f), e)
	}
	if is, e := pairing.IsOne([]group.G1{g, group.Curve1().Neg(g)}, []group.G2{h, h}); !is || e != api.OK {
		t.Errorf("Gen1 and its negative, Gen2 twice: %v, %v", is, e)
	}
	e := pairing.Pair(g, h)
	if pairing.Pair(times1(6), times2(-7)) != e.Pow(fr.Of(-42).Nat()) {
		t.Error("6 and -7: not to the -42")
	}
}
