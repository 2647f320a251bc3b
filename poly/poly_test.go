package poly_test

import (
	"math"
	"math/big"
	"slices"
	"strconv"
	"testing"

	"marlinspike/api"
	"marlinspike/fr"
	"marlinspike/poly"
)

// P13.1

func TestOf(t *testing.T) {
	for _, p := range some() {
		want(t, "Of "+text(p), poly.Of(p...), p)
	}
	want(t, "Of none", poly.Of(), nil)
	want(t, "Of one", poly.Of(fr.Of(3)), list(3))
	want(t, "Of 0", poly.Of(fr.Of(0)), nil)
	want(t, "Of several", poly.Of(fr.Of(0), fr.Of(-2), fr.Of(0), fr.Of(5).Sub(fr.Of(5))), list(0, -2))
	s := numbers{state: 1}
	for n := range 12 { // each count of zeros behind
		p := s.scalars(3)
		want(t, "Of three and zeros", poly.Of(longer(p, n)...), p)
		want(t, "Of zeros", poly.Of(zeros(n)...), nil)
	}
}

func TestAddAndSub(t *testing.T) {
	for _, p := range some() {
		for _, q := range some() {
			minus := zeros(len(q))
			for i, x := range q {
				minus[i] = x.Neg()
			}
			want(t, text(p)+" and "+text(q), poly.Add(p, q), sum(p, q))
			want(t, text(p)+" less "+text(q), poly.Sub(p, q), sum(p, minus))
		}
	}
}

func TestSmallSums(t *testing.T) {
	want(t, "Add", poly.Add(list(1, 2, 3), list(10, 20)), list(11, 22, 3))
	want(t, "Add", poly.Add(list(10, 20), list(1, 2, 3)), list(11, 22, 3))
	want(t, "Sub", poly.Sub(list(1, 2, 3), list(10, 20)), list(-9, -18, 3))
	want(t, "Sub", poly.Sub(list(10, 20), list(1, 2, 3)), list(9, 18, -3))
	want(t, "Sub of 0", poly.Sub(nil, list(4, 0, -5)), list(-4, 0, 5))
}

// What is highest comes to 0, and what is below it too, place by place.
func TestSumsThatAreShorter(t *testing.T) {
	s := numbers{state: 2}
	p := s.scalars(7)
	minus := poly.Sub(nil, p)
	for n := range 8 {
		q := slices.Clone(p)
		for i := range n {
			q[i] = s.scalar()
		}
		want(t, "Sub, "+strconv.Itoa(n)+" left", poly.Sub(p, q), sum(p, poly.Scale(q, fr.Of(-1))))
		if got := poly.Sub(p, q); len(got) != n {
			t.Errorf("Sub: %d scalars, not %d", len(got), n)
		}
		copy(q[n:], minus[n:])
		want(t, "Add, "+strconv.Itoa(n)+" left", poly.Add(p, q), sum(p, q))
		if got := poly.Add(q, p); len(got) != n {
			t.Errorf("Add: %d scalars, not %d", len(got), n)
		}
	}
	want(t, "a sum with 0 between", poly.Add(list(1, 2, 3, 4), list(0, -2, 0, -4)), list(1, 0, 3))
	for _, p := range some() {
		want(t, text(p)+" less itself", poly.Sub(p, p), nil)
		want(t, text(p)+" and its negative", poly.Add(p, poly.Sub(nil, p)), nil)
	}
}

func TestScale(t *testing.T) {
	for _, p := range some() {
		for _, s := range places() {
			multiple := zeros(len(p))
			for i, x := range p {
				multiple[i] = x.Mul(s)
			}
			want(t, text(p)+" times "+big10(s), poly.Scale(p, s), multiple)
		}
		want(t, text(p)+" times 0", poly.Scale(p, fr.El{}), nil)
		want(t, text(p)+" times 1", poly.Scale(p, fr.Of(1)), p)
		want(t, text(p)+" times -1", poly.Scale(p, fr.Of(-1)), poly.Sub(nil, p))
	}
	want(t, "Scale", poly.Scale(list(1, 0, -2, 3, 0), fr.Of(-4)), list(-4, 0, 8, -12))
}

func TestMul(t *testing.T) {
	for _, p := range some() {
		for _, q := range some() {
			want(t, text(p)+" times "+text(q), poly.Mul(p, q), product(p, q))
		}
	}
}

func TestSmallProducts(t *testing.T) {
	want(t, "(2 + 3 Z) (5 - 7 Z + Z^2)", poly.Mul(list(2, 3), list(5, -7, 1)), list(10, 1, -19, 3))
	want(t, "(1 + Z + Z^2) (1 - Z + Z^2)", poly.Mul(list(1, 1, 1), list(1, -1, 1)), list(1, 0, 1, 0, 1))
	p := list(1)
	binomial := big.NewInt(0)
	for n := range int64(40) { // the powers of 1 + Z
		for k := range n + 1 {
			if wanted := binomial.Binomial(n, k).Int64(); at(p, int(k)) != fr.Of(wanted) || len(p) != int(n)+1 {
				t.Errorf("(1 + Z)^%d: at %d %s, not %d", n, k, big10(at(p, int(k))), wanted)
			}
		}
		p = poly.Mul(p, list(1, 1))
	}
}

// Long ones: the scalars lie side by side in one great number, whose products
// the library knows.
func TestLongProducts(t *testing.T) {
	s := numbers{state: 3}
	for _, n := range []int{1, 2, 17, 64, 255, 500} {
		for _, m := range []int{1, 3, 64, 300} {
			for _, p := range [][]fr.El{s.scalars(n), s.sparse(n), slices.Repeat(list(-1), n)} {
				q := s.scalars(m)
				wanted := parts(t, new(big.Int).Mul(great(p), great(q)))
				want(t, "Mul", poly.Mul(p, q), wanted)
				want(t, "Mul, turned", poly.Mul(longer(q, 3), p), wanted)
			}
		}
	}
}

func TestSame(t *testing.T) {
	l := some()
	for i, p := range l {
		for _, q := range l {
			n, m := count(p), count(q)
			if got := poly.Same(p, q); got != slices.Equal(p[:n], q[:m]) {
				t.Errorf("Same of %s and %s is %v", text(p), text(q), got)
			}
		}
		for n := range 5 {
			if !poly.Same(p, longer(p, n)) || !poly.Same(longer(p, n), p) || !poly.Same(longer(p, 2), longer(p, n)) {
				t.Errorf("%d: %s with %d zeros behind is not the same", i, text(p), n)
			}
			other := append(longer(p, n), fr.Of(2))
			if poly.Same(p, other) || poly.Same(other, p) {
				t.Errorf("%d: %s and %s are the same", i, text(p), text(other))
			}
		}
		for j := range p { // each place plays its part
			other := slices.Clone(p)
			other[j] = other[j].Add(fr.Of(1))
			if poly.Same(p, other) || poly.Same(other, longer(p, 1)) {
				t.Errorf("%d: %s and %s are the same", i, text(p), text(other))
			}
		}
	}
	if poly.Same(list(0, 1), list(1)) || poly.Same(list(1, 0), list(0, 1)) {
		t.Error("1 and Z are the same")
	}
}

// P13.2

func TestShift(t *testing.T) {
	for _, p := range some() {
		for _, n := range []int{0, 1, 2, 3, 8, 63, 64, 65, 1000} {
			what := text(p) + " by " + strconv.Itoa(n)
			got, e := poly.Shift(p, n)
			if e != api.OK {
				t.Errorf("Shift of %s: %v", what, e)
			}
			want(t, "Shift of "+what, got, append(zeros(n), p...))
			power := append(zeros(n), fr.Of(1))
			want(t, "Mul, in place of Shift, of "+what, got, poly.Mul(p, power))
			want(t, "Mul, in place of Shift, of "+what, got, poly.Mul(power, p))
		}
	}
}

func TestGreatShifts(t *testing.T) {
	s := numbers{state: 4}
	for _, p := range [][]fr.El{nil, zeros(3), list(1), list(0, -4, 0), s.scalars(3), s.scalars(api.MaxDomain + 5)} {
		for _, n := range []int{api.MaxDomain - 1, api.MaxDomain} {
			got, e := poly.Shift(p, n)
			if e != api.OK {
				t.Errorf("Shift of %s by %d: %v", text(p), n, e)
			}
			want(t, "Shift of "+text(p)+" by "+strconv.Itoa(n), got, append(zeros(n), p...))
			if len(p) < 9 {
				want(t, "Mul, in place of Shift", got, poly.Mul(append(zeros(n), fr.Of(1)), p))
			}
		}
	}
}

func TestShiftRefuses(t *testing.T) {
	if api.MaxDomain != 65536 {
		t.Error("MaxDomain is another one")
	}
	for _, n := range []int{-1, -2, -7, -65536, math.MinInt, math.MinInt + 1, 65537, 65538, 1 << 17, 1 << 32, 1<<32 + 1, math.MaxInt, math.MaxInt - 1} {
		for _, p := range [][]fr.El{nil, {}, list(0), zeros(5), list(1), list(1, 2, 3), longer(list(4), 2)} {
			if got, e := poly.Shift(p, n); len(got) != 0 || e != api.ErrArg {
				t.Errorf("Shift of %s by %d: %s, %v", text(p), n, text(got), e)
			}
		}
	}
}

func TestEval(t *testing.T) {
	for _, p := range some() {
		for _, z := range places() {
			if got, wanted := poly.Eval(p, z), worth(p, z); got != wanted {
				t.Errorf("%s at %s is %s, not %s", text(p), big10(z), big10(got), big10(wanted))
			}
		}
		if got := poly.Eval(p, fr.El{}); got != at(p, 0) {
			t.Errorf("%s at 0 is %s", text(p), big10(got))
		}
		var all fr.El
		for _, x := range p {
			all = all.Add(x)
		}
		if got := poly.Eval(p, fr.Of(1)); got != all {
			t.Errorf("%s at 1 is %s, not %s", text(p), big10(got), big10(all))
		}
	}
}

func TestSmallWorths(t *testing.T) {
	for _, c := range []struct {
		p        []fr.El
		z, worth int64
	}{
		{nil, 9, 0}, {list(0), 9, 0}, {zeros(4), -9, 0}, {list(6), 9, 6}, {list(6), 0, 6}, {list(6, 0, 0), 9, 6},
		{list(0, 1), 9, 9}, {list(1, 2, 3), 10, 321}, {list(1, 2, 3), -10, 281}, {list(1, 2, 3, 0), 0, 1}, {list(1, 2, 3), 1, 6},
		{list(1, 1, 1, 1, 1, 1), 2, 63}, {list(-1, 0, 0, 0, 0, 1), 3, 242}, {list(6, -5, 1), 2, 0}, {list(6, -5, 1), 3, 0}, {list(6, -5, 1), 4, 2},
	} {
		if got := poly.Eval(c.p, fr.Of(c.z)); got != fr.Of(c.worth) {
			t.Errorf("%s at %d is %s, not %d", text(c.p), c.z, big10(got), c.worth)
		}
	}
	ones := slices.Repeat(list(1), 3000) // (z^3000 - 1) / (z - 1)
	z := fr.Of(12345)
	if poly.Eval(ones, z).Mul(z.Sub(fr.Of(1))) != z.Pow([]uint64{3000}).Sub(fr.Of(1)) {
		t.Error("3000 times 1")
	}
}

// P13.3

func TestDivMod(t *testing.T) {
	for _, p := range some() {
		for _, q := range some() {
			if count(q) > 0 {
				wantDivided(t, text(p)+" by "+text(q), p, q)
			}
		}
	}
}

func TestDivModAtItsEdges(t *testing.T) {
	for _, q := range some() {
		if count(q) == 0 {
			continue
		}
		wantBoth := func(what string, p, quotient, rest []fr.El) {
			t.Helper()
			gotQ, gotR := wantDivided(t, what, p, q)
			want(t, what+": the quotient by "+text(q), gotQ, quotient)
			want(t, what+": the rest by "+text(q), gotR, rest)
		}
		less := slices.Repeat(list(-6), count(q)-1)
		wantBoth("0", nil, nil, nil)
		wantBoth("zeros", zeros(30), nil, nil)
		wantBoth("of a lesser degree", less, nil, less)
		wantBoth("of a lesser degree, and zeros", longer(less, 30), nil, less)
		wantBoth("itself", q, list(1), nil)
		wantBoth("itself, and zeros", longer(q, 7), list(1), nil)
		wantBoth("itself, and more", poly.Add(q, less), list(1), less)
		for _, p := range some() {
			wantBoth(text(p)+" times it", poly.Mul(p, q), p, nil)
			wantBoth(text(p)+" times it, and more", poly.Add(poly.Mul(p, q), less), p, less)
		}
	}
}

func TestDivModByConstants(t *testing.T) {
	for _, x := range places() {
		inverse, e := x.Inv()
		if e != api.OK {
			continue
		}
		for _, p := range some() {
			for n := range 3 {
				quotient, rest := wantDivided(t, text(p)+" by "+big10(x), p, append([]fr.El{x}, zeros(n)...))
				want(t, text(p)+" by "+big10(x), quotient, poly.Scale(p, inverse))
				want(t, "the rest by "+big10(x), rest, nil)
			}
		}
	}
}

func TestSmallQuotients(t *testing.T) {
	for _, c := range []struct{ p, q, quotient, rest []fr.El }{
		{list(-1, 0, 1), list(-1, 1), list(1, 1), nil},
		{list(-1, 0, 1), list(1, 1), list(-1, 1), nil},
		{list(1, 0, 1), list(-1, 1), list(1, 1), list(2)},
		{list(7, 5, 3, 2), list(1, 1), list(4, 1, 2), list(3)},
		{list(0, 0, 0, 1), list(1, 0, 1), list(0, 1), list(0, -1)},
		{list(5, 0, 0, 0, 1), list(0, 0, 1), list(0, 0, 1), list(5)},
		{list(6, -4, 8), list(2), list(3, -2, 4), nil},
		{list(0, 0, 1), list(0, 1), list(0, 1), nil},
		{list(3, 1), list(0, 0, 1), nil, list(3, 1)},
	} {
		quotient, rest := wantDivided(t, text(c.p)+" by "+text(c.q), c.p, c.q)
		want(t, "the quotient of "+text(c.p)+" by "+text(c.q), quotient, c.quotient)
		want(t, "the rest of "+text(c.p)+" by "+text(c.q), rest, c.rest)
	}
	half, _ := fr.Of(2).Inv()
	quotient, rest := wantDivided(t, "Z^2 by 1 + 2 Z", list(0, 0, 1), list(1, 2))
	want(t, "Z^2 by 1 + 2 Z", quotient, []fr.El{half.Mul(half).Neg(), half})
	want(t, "the rest of Z^2 by 1 + 2 Z", rest, []fr.El{half.Mul(half)})
	power := append(zeros(60), fr.Of(1))
	quotient, rest = wantDivided(t, "Z^60 - 1 by Z - 1", poly.Sub(power, list(1)), list(-1, 1))
	want(t, "Z^60 - 1 by Z - 1", quotient, slices.Repeat(list(1), 60))
	want(t, "the rest of Z^60 - 1 by Z - 1", rest, nil)
	quotient, rest = wantDivided(t, "Z^60 by Z^7 - 2", power, poly.Sub(power[60-7:], list(2)))
	want(t, "the rest of Z^60 by Z^7 - 2", rest, list(0, 0, 0, 0, 256))
	if len(quotient) != 54 {
		t.Errorf("Z^60 by Z^7 - 2: %d scalars", len(quotient))
	}
}

func TestLongQuotients(t *testing.T) {
	s := numbers{state: 7}
	for _, n := range []int{1, 100, 401, 900} {
		for _, m := range []int{1, 2, 100, 400, 901} {
			wantDivided(t, "long ones", s.scalars(n), s.scalars(m))
			wantDivided(t, "sparse ones", s.sparse(n), s.sparse(m))
			wantDivided(t, "of -1 alone", slices.Repeat(list(-1), n), slices.Repeat(list(-1), m))
		}
	}
}

func TestDivModRefuses(t *testing.T) {
	none := [][]fr.El{nil, {}, list(0), zeros(2), zeros(17), {fr.Of(3).Sub(fr.Of(3))}, longer(nil, 1000)}
	for _, p := range append(some(), zeros(30)) {
		for _, q := range none {
			if quotient, rest, e := poly.DivMod(p, q); len(quotient) != 0 || len(rest) != 0 || e != api.ErrZero {
				t.Errorf("DivMod of %s by %d zeros: %s, %s, %v", text(p), len(q), text(quotient), text(rest), e)
			}
		}
	}
}

// P13.4

func TestPoints(t *testing.T) {
	s := numbers{state: 8}
	for n := range 14 {
		for _, xs := range [][]fr.El{from(0, n), from(1, n), from(-5, n), s.scalars(n)} {
			slices.Reverse(xs[n/2:])
			for _, ys := range [][]fr.El{s.scalars(n), from(7, n), s.scalars(n + 3)[:n]} {
				wantThrough(t, strconv.Itoa(n)+" points", xs, ys)
			}
		}
	}
	wantThrough(t, "60 points", s.scalars(60), s.scalars(60))
	wantThrough(t, "a hundred points", from(-50, 100), from(3, 100))
}

func TestPointsAtTheirEdges(t *testing.T) {
	for _, none := range [][]fr.El{nil, {}, list(1, 2)[:0]} {
		want(t, "of no points", wantThrough(t, "none", none, nil), nil)
		want(t, "of no points", wantThrough(t, "none", none, []fr.El{}), nil)
		want(t, "of no points", wantThrough(t, "none", nil, none), nil)
	}
	for _, x := range places() {
		for _, y := range places() {
			want(t, "of one point", wantThrough(t, "one", []fr.El{x}, []fr.El{y}), []fr.El{y})
		}
	}
	s := numbers{state: 9}
	xs := append(s.scalars(9), fr.El{})
	for n := range 11 {
		want(t, "of ys that are 0", wantThrough(t, "zeros", xs[:n], zeros(n)), nil)
		for _, c := range list(1, -1, 77) {
			ys := slices.Repeat([]fr.El{c}, n)
			want(t, "of ys that are alike", wantThrough(t, "a constant", xs[:n], ys), ys[:min(n, 1)])
		}
		line := []fr.El{s.scalar(), s.scalar()}
		ys := zeros(n)
		for i := range ys {
			ys[i] = worth(line, xs[i])
		}
		if got := wantThrough(t, "a line", xs[:n], ys); n > 1 {
			want(t, "of points of a line", got, line)
		}
		if got := wantThrough(t, "Z", xs[:n], xs[:n]); n > 1 {
			want(t, "of points whose ys are their xs", got, list(0, 1))
		}
	}
}

// Whatever polynomial there is, points of it lead back, if they are not fewer
// than its scalars: of more of them too.
func TestPointsLeadBack(t *testing.T) {
	s := numbers{state: 10}
	for _, p := range some() {
		for _, more := range []int{0, 1, 2, 9} {
			n := count(p) + more
			for _, xs := range [][]fr.El{s.scalars(n), from(-4, n)} {
				ys := zeros(n)
				for i := range ys {
					ys[i] = worth(p, xs[i])
				}
				want(t, "points of "+text(p), wantThrough(t, text(p), xs, ys), p)
				slices.Reverse(xs)
				slices.Reverse(ys)
				want(t, "points of "+text(p)+", turned", wantThrough(t, text(p), xs, ys), p)
			}
		}
	}
}

// One y that is not 0: the polynomial is 0 at all xs but its one.
func TestPointsOfOneThatIsNot0(t *testing.T) {
	xs := from(-2, 6)
	for i, x := range xs {
		ys, wanted := zeros(6), list(1)
		ys[i] = fr.Of(1)
		for j, other := range xs {
			if j != i {
				per, _ := x.Sub(other).Inv()
				wanted = product(wanted, []fr.El{other.Neg().Mul(per), per})
			}
		}
		want(t, "1 at one x", wantThrough(t, "1", xs, ys), wanted)
	}
}

func TestPointsRefuseUnlikeLengths(t *testing.T) {
	s := numbers{state: 11}
	xs, ys := s.scalars(7), s.scalars(7)
	for n := range 8 {
		for m := range 8 {
			p, e := poly.Points(xs[:n], ys[:m])
			if n != m && (len(p) != 0 || e != api.ErrArg) || n == m && e != api.OK {
				t.Errorf("%d xs and %d ys: %s, %v", n, m, text(p), e)
			}
			p, e = poly.Points(xs[:n], zeros(m)) // zeros at the end count
			if n != m && (len(p) != 0 || e != api.ErrArg) || n == m && (len(p) != 0 || e != api.OK) {
				t.Errorf("%d xs and %d zeros: %s, %v", n, m, text(p), e)
			}
		}
	}
	for _, l := range [][]fr.El{nil, {}} {
		for _, one := range [][]fr.El{list(1), list(0), zeros(2)} {
			if p, e := poly.Points(l, one); len(p) != 0 || e != api.ErrArg {
				t.Errorf("no xs and %d ys: %s, %v", len(one), text(p), e)
			}
			if p, e := poly.Points(one, l); len(p) != 0 || e != api.ErrArg {
				t.Errorf("%d xs and no ys: %s, %v", len(one), text(p), e)
			}
		}
	}
}

func TestPointsRefuseXsThatAreAlike(t *testing.T) {
	s := numbers{state: 12}
	for n := 2; n < 9; n++ {
		for i := range n {
			for j := range i {
				for _, xs := range [][]fr.El{s.scalars(n), from(-3, n)} {
					xs[i] = xs[j]
					same := zeros(n) // two points that are the same are refused too
					for k := range same {
						same[k] = xs[k].Add(fr.Of(1))
					}
					for _, ys := range [][]fr.El{s.scalars(n), zeros(n), same} {
						if p, e := poly.Points(xs, ys); len(p) != 0 || e != api.ErrArg {
							t.Errorf("%d xs, those at %d and %d alike: %s, %v", n, j, i, text(p), e)
						}
					}
				}
			}
		}
	}
	for _, n := range []int{2, 3, 50} {
		if p, e := poly.Points(zeros(n), s.scalars(n)); len(p) != 0 || e != api.ErrArg {
			t.Errorf("%d xs that are 0: %s, %v", n, text(p), e)
		}
	}
	far := s.scalars(120)
	far[119] = far[0]
	if p, e := poly.Points(far, s.scalars(120)); len(p) != 0 || e != api.ErrArg {
		t.Errorf("the first and the last x of 120: %s, %v", text(p), e)
	}
	if p, e := poly.Points(list(2, 2), list(1)); len(p) != 0 || e != api.ErrArg {
		t.Errorf("both at once: %s, %v", text(p), e)
	}
}

// The document's examples.
func TestExamples(t *testing.T) {
	want(t, "Mul", poly.Mul(list(1, 1), list(1, -1)), list(1, 0, -1))
	if got := poly.Eval(list(1, 2), fr.Of(3)); got != fr.Of(7) {
		t.Errorf("Eval: %s", big10(got))
	}
	quotient, rest, e := poly.DivMod(list(-1, 0, 1), list(-1, 1))
	want(t, "the quotient", quotient, list(1, 1))
	want(t, "the rest", rest, nil)
	p, other := poly.Points(list(0, 1), list(5, 7))
	want(t, "Points", p, list(5, 2))
	shifted, third := poly.Shift(list(3), 2)
	want(t, "Shift", shifted, list(0, 0, 3))
	if e != api.OK || other != api.OK || third != api.OK {
		t.Errorf("%v, %v, %v", e, other, third)
	}
	if quotient, rest, e = poly.DivMod(list(0, 1), nil); len(quotient) != 0 || len(rest) != 0 || e != api.ErrZero {
		t.Errorf("DivMod by 0: %s, %s, %v", text(quotient), text(rest), e)
	}
	root, _ := fr.Root(4) // of the whole: 1 - Z^2 on the domain of 4 elements
	for i, wanted := range list(0, 2, 0, 2) {
		if got := poly.Eval(list(1, 0, -1), root.Pow([]uint64{uint64(i)})); got != wanted {
			t.Errorf("1 - Z^2 at the %d-th element: %s", i, big10(got))
		}
	}
}
