package miller_test

import (
	"fmt"
	"strings"
	"testing"

	"marlinspike/fq"
	"marlinspike/fq12"
	"marlinspike/fq2"
	"marlinspike/fr"
	"marlinspike/group"
	"marlinspike/miller"
)

// P11.1

// The generators' multiples, by both lists' scalars.
func TestMillerOfMultiples(t *testing.T) {
	g, h, l := group.Gen1(), group.Gen2(), scalars()
	want(t, "the generators", g, h)
	for i, a := range l {
		b := l[(5*i+3)%len(l)]
		want(t, fmt.Sprint(a.Nat(), " and ", b.Nat()), group.Mul1(g, a), group.Mul2(h, b))
	}
	for i, a := range l[2:8] {
		want(t, fmt.Sprint(a.Nat(), " and 1"), group.Mul1(g, a), h)
		want(t, fmt.Sprint("1 and ", a.Nat()), g, group.Mul2(h, a))
		want(t, fmt.Sprint(a.Nat(), " of both"), group.Mul1(g, l[i]), group.Mul2(h, l[i]))
	}
}

// Numbers that were worked out apart from the program, by twelve powers of w.
func TestMillerByNumbers(t *testing.T) {
	g, h := group.Gen1(), group.Gen2()
	table := []struct {
		what string
		p    group.G1
		q    group.G2
		text string
	}{
		{"the generators", g, h, textOfGenerators},
		{"5 and -7", group.Mul1(g, fr.Of(5)), group.Mul2(h, fr.Of(-7)), textOfMultiples},
		{"(2, 3) and x = 2 + u", point1(t, 2, 3), outside2(t)[0], textOfOutside},
		{"(-1, 0) and 2", point1(t, -1, 0), group.Mul2(h, fr.Of(2)), textOfUpright},
	}
	for _, row := range table {
		got := strings.Fields(digits(miller.Miller(row.p, row.q)))
		if text := strings.Fields(row.text); strings.Join(got, " ") != strings.Join(text, " ") {
			t.Errorf("%s: %s, not %s", row.what, got, text)
		}
	}
}

// The far one, as the zero Point and as what sums come to.
func TestMillerOfTheFarOne(t *testing.T) {
	c1, c2, g, h := group.Curve1(), group.Curve2(), group.Gen1(), group.Gen2()
	far1 := []group.G1{{}, c1.Add(g, c1.Neg(g)), c1.Mul(g, fr.Modulus()), c1.Mul(point1(t, 2, 3), []uint64{6}), c1.Neg(group.G1{}), {X: fq.Of(1), Y: fq.Of(1)}}
	far2 := []group.G2{{}, c2.Add(h, c2.Neg(h)), c2.Mul(h, fr.Modulus()), c2.Neg(group.G2{}), {X: fq2.Of(1, 0), Y: fq2.Of(1, 0)}}
	ask := func(p group.G1, q group.G2) {
		if f := miller.Miller(p, q); f != fq12.Of(1) {
			t.Errorf("of %v and %v it is %s", p, q, digits(f))
		}
	}
	for _, p := range far1 {
		ask(p, h)
		for _, q := range far2 {
			ask(p, q)
		}
		for _, q := range outside2(t) {
			ask(p, q)
		}
	}
	for _, q := range far2 {
		ask(g, q)
		for _, p := range outside1(t) {
			ask(p, q)
		}
	}
}

// Points of G1's curve that are not of the group.
func TestMillerOfTheFirstCurve(t *testing.T) {
	h := group.Gen2()
	for _, p := range outside1(t) {
		want(t, fmt.Sprint(flat(p).x.Parts()[0], " and 1"), p, h)
		want(t, fmt.Sprint(flat(p).x.Parts()[0], " and -3"), p, group.Mul2(h, fr.Of(-3)))
	}
}

// Points of G2's curve that are not of the group.
func TestMillerOfTheSecondCurve(t *testing.T) {
	g, out := group.Gen1(), outside1(t)
	for i, q := range outside2(t) {
		want(t, fmt.Sprint("1 and the point ", i), g, q)
		want(t, fmt.Sprint("-3 and the point ", i), group.Mul1(g, fr.Of(-3)), q)
		want(t, fmt.Sprint("both outside, ", i), out[i], q)
	}
}

// One point told by several values.
func TestMillerOfSeveralValues(t *testing.T) {
	g, h := group.Gen1(), group.Gen2()
	p, q := group.Mul1(g, fr.Of(12)), group.Mul2(h, fr.Of(-5))
	f := miller.Miller(p, q)
	qs := several(t, group.Curve2(), h, q)
	for i, v := range several(t, group.Curve1(), g, p) {
		for _, u := range []group.G2{q, qs[i]} {
			if got := miller.Miller(v, u); got != f {
				t.Errorf("of %v and %v it is %s, not %s", v, u, digits(got), digits(f))
			}
		}
	}
	p, q = point1(t, 2, 3), outside2(t)[0]
	f = miller.Miller(p, q)
	qs = several(t, group.Curve2(), h, q)
	for i, v := range several(t, group.Curve1(), g, p) {
		if got := miller.Miller(v, qs[i]); got != f {
			t.Errorf("of %v and %v, that are not of the groups, it is %s, not %s", v, qs[i], digits(got), digits(f))
		}
	}
}

// P11.2

// goesOver fails if a point goes over into anything but what the document says.
func goesOver(t *testing.T, what string, q group.G2) {
	t.Helper()
	got := told(q)
	if got != over(q) {
		t.Errorf("%s goes over into (%s, %s), %v", what, digits(got.x), digits(got.y), got.is)
	}
	x, y, is := group.Curve2().Affine(q)
	if got.x.Parts() != [6]fq2.El{2: x} || got.y.Parts() != [6]fq2.El{3: y} || got.is != is {
		t.Errorf("%s goes over into the parts %v, %v", what, got.x.Parts(), got.y.Parts())
	}
}

func TestOver(t *testing.T) {
	h := group.Gen2()
	goesOver(t, "the generator", h)
	for _, k := range scalars() {
		q := group.Mul2(h, k)
		if !told(q).is {
			t.Errorf("%v: there is nothing", k.Nat())
		}
		goesOver(t, fmt.Sprint(k.Nat()), q)
	}
	for i, q := range outside2(t) {
		goesOver(t, fmt.Sprint("the point ", i), q)
	}
}

func TestOverOfTheFarOne(t *testing.T) {
	c, h := group.Curve2(), group.Gen2()
	for _, q := range []group.G2{{}, c.Add(h, c.Neg(h)), c.Mul(h, fr.Modulus()), {X: fq2.Of(1, 2), Y: fq2.Of(3, 0)}} {
		if got := told(q); got != (pair{}) || !got.x.IsZero() || !got.y.IsZero() {
			t.Errorf("%v goes over into (%s, %s), %v", q, digits(got.x), digits(got.y), got.is)
		}
	}
}

func TestOverOfSeveralValues(t *testing.T) {
	h := group.Gen2()
	for _, q := range []group.G2{h, group.Mul2(h, fr.Of(-9)), outside2(t)[1], {}} {
		for _, v := range several(t, group.Curve2(), h, q) {
			if told(v) != told(q) {
				t.Errorf("%v and %v go over into unlike points", v, q)
			}
		}
	}
}

// The document's examples.
func TestExamples(t *testing.T) {
	if f := miller.Miller(group.G1{}, group.Gen2()); f != fq12.Of(1) {
		t.Errorf("of the far one and Gen2: %s", digits(f))
	}
	if f := miller.Miller(group.Gen1(), group.G2{}); f != fq12.Of(1) {
		t.Errorf("of Gen1 and the far one: %s", digits(f))
	}
	if f := miller.Miller(group.G1{}, group.G2{}); f != fq12.Of(1) {
		t.Errorf("of the far one twice: %s", digits(f))
	}
}
