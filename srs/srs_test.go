package srs_test

import (
	"bytes"
	"crypto/sha256"
	"encoding/hex"
	"fmt"
	"math"
	"math/big"
	"slices"
	"strings"
	"sync"
	"testing"

	"marlinspike/api"
	"marlinspike/fq"
	"marlinspike/fq2"
	"marlinspike/fr"
	"marlinspike/group"
	"marlinspike/points"
	"marlinspike/srs"
)

// P17.1 to P17.4. The calls' forms are a part of them.
var (
	_ func(t, g fr.El, n int) (*srs.SRS, api.Errno) = srs.New
	_ func(s *srs.SRS) int                          = (*srs.SRS).Degree
	_ func(s *srs.SRS) bool                         = (*srs.SRS).Good
	_ func(s *srs.SRS, n int) (*srs.SRS, api.Errno) = (*srs.SRS).Trim
	_ func(s *srs.SRS) ([]byte, api.Errno)          = (*srs.SRS).Bytes
	_ func(b []byte) (*srs.SRS, api.Errno)          = srs.Get
	_ struct {
		Powers, Blinds []group.G1
		Tau            group.G2
	} = srs.SRS{}
)

// What the tests hold the program against is held against what was worked out apart.
func TestModel(t *testing.T) {
	two := expsOf(whole(2), whole(3), 2)
	want := strings.Join(strings.Fields(textOfTwoThree), "")
	if got := hex.EncodeToString(two.text()); got != want {
		t.Errorf("it is %s, not %s", got, want)
	}
	for _, x := range allApart() {
		if x.n > 6 {
			continue // it takes long
		}
		sum := sha256.Sum256(expsOf(number(x.t), number(x.g), x.n).text())
		if hex.EncodeToString(sum[:]) != x.sum {
			t.Errorf("of %s, %s and %d it is another one", x.t, x.g, x.n)
		}
	}
	if !two.good() || spot1().times(r).is || spot2().times(r).is {
		t.Error("the setup of 2 and 3, or a generator r times")
	}
}

// P17.1, P17.4
func TestToldApart(t *testing.T) {
	for _, x := range allApart() {
		s := made(t, number(x.t), number(x.g), x.n)
		sum := sha256.Sum256(bytesOf(t, s))
		if hex.EncodeToString(sum[:]) != x.sum {
			t.Errorf("of %s, %s and %d it is another one", x.t, x.g, x.n)
		}
	}
}

// P17.1

// minus is r less n.
func minus(n int64) *big.Int { return new(big.Int).Sub(r, whole(n)) }

// secrets are scalars that are not 0.
func secrets() []*big.Int {
	s := numbers{state: 1}
	l := append(wholes(1, 2, 3, 255, 256, 257, 1<<32), minus(1), minus(2), minus(256))
	for _, bits := range []uint{64, 248, 252} {
		l = append(l, new(big.Int).Lsh(whole(1), bits))
	}
	return append(l, new(big.Int).Rsh(r, 1), s.big(), s.big())
}

// orders are roots of 1, of the orders 2 and 4: their powers come again.
func orders() []*big.Int {
	root, _ := fr.Root(4)
	b := root.Scalar()
	return []*big.Int{minus(1), new(big.Int).SetBytes(b[:])}
}

func TestNew(t *testing.T) {
	for i, tau := range secrets() {
		g := secrets()[(i*5+3)%len(secrets())]
		for _, n := range []int{1, 2, 3 + i%3} {
			s := made(t, tau, g, n)
			want(t, fmt.Sprintf("of %v, %v and %d", tau, g, n), s, expsOf(tau, g, n))
			if s.Degree() != n {
				t.Errorf("of %v, %v and %d the degree is %d", tau, g, n, s.Degree())
			}
		}
	}
	for _, tau := range orders() {
		want(t, "a root of 1", made(t, tau, tau, 9), expsOf(tau, tau, 9))
	}
	for _, g := range secrets() {
		want(t, "the blinds of "+g.String(), made(t, whole(2), g, 1), expsOf(whole(2), g, 1))
	}
}

func TestNewExample(t *testing.T) {
	s := made(t, whole(2), whole(3), 2)
	want(t, "of 2, 3 and 2", s, exps{wholes(1, 2, 4), wholes(3, 6, 12), whole(2)})
	if text := hex.EncodeToString(bytesOf(t, s)); text != strings.Join(strings.Fields(textOfTwoThree), "") {
		t.Errorf("its bytes are %s", text)
	}
}

// The powers are as many as the degree says, whatever it is.
func TestDegrees(t *testing.T) {
	for n := 1; n <= 40; n++ {
		s := made(t, whole(3), whole(7), n)
		if s.Degree() != n || len(s.Powers) != n+1 || len(s.Blinds) != n+1 {
			t.Fatalf("%d powers and %d blinds, of the degree %d, %d", len(s.Powers), len(s.Blinds), n, s.Degree())
		}
		last := raised(whole(3), whole(1), n)
		p, b := points.Put1(s.Powers[n]), points.Put1(s.Blinds[n])
		if !bytes.Equal(p[:], text1(last)) || !bytes.Equal(b[:], text1(new(big.Int).Mul(last, whole(7)))) {
			t.Errorf("of the degree %d the last power or blind is another one", n)
		}
	}
}

// most is the greatest setup there is. It takes long: it is made once.
var most = sync.OnceValues(func() (*srs.SRS, api.Errno) {
	return srs.New(el(mostT), el(mostG), api.MaxPower)
})

var mostT, mostG = minus(77), number("fedcba9876543210123456789abcdefffeeddccbbaa99887766554433221100")

// mostPlaces are those at which it is looked at.
func mostPlaces() []int {
	return []int{0, 1, 2, 255, 256, 1000, api.MaxPower/2 - 1, api.MaxPower / 2, api.MaxPower - 2, api.MaxPower - 1, api.MaxPower}
}

// wantMost fails if a setup is not that one, as far as it is looked at.
func wantMost(t *testing.T, s *srs.SRS, e api.Errno) {
	t.Helper()
	if e != api.OK || s.Degree() != api.MaxPower || len(s.Powers) != api.MaxPower+1 || len(s.Blinds) != api.MaxPower+1 {
		t.Fatalf("the greatest setup: %v, the degree %d", e, s.Degree())
	}
	for _, i := range mostPlaces() {
		p, b := points.Put1(s.Powers[i]), points.Put1(s.Blinds[i])
		if !bytes.Equal(p[:], text1(raised(mostT, whole(1), i))) || !bytes.Equal(b[:], text1(raised(mostT, mostG, i))) {
			t.Errorf("the power or the blind %d is another one", i)
		}
	}
	if b := points.Put2(s.Tau); !bytes.Equal(b[:], text2(mostT)) {
		t.Errorf("Tau is %x", b)
	}
}

func TestNewAtTheGreatestDegree(t *testing.T) {
	s, e := most()
	wantMost(t, s, e)
}

// wrongDegrees are those of no setup.
func wrongDegrees() []int {
	l := []int{0, api.MaxPower + 1, api.MaxPower + 2, 2 * api.MaxPower, 4*api.MaxPower - 1, 1<<32 + 5, 1 << 16, 1<<16 + 2, 1 << 62, -5}
	return append(l, -1, -2, -api.MaxPower, math.MinInt, math.MinInt+1, math.MinInt32, math.MaxInt, math.MaxInt-1, math.MaxInt32)
}

func TestNewRefuses(t *testing.T) {
	zero, one := fr.Of(0), fr.Of(1)
	pairs := []struct{ t, g fr.El }{{zero, one}, {one, zero}, {zero, zero}, {one.Sub(one), fr.Of(-1)}, {fr.Of(-1), one.Sub(one)}, {el(r), one}}
	for _, x := range pairs {
		for _, n := range []int{1, 2, 3, 100, api.MaxPower - 1, api.MaxPower} {
			if s, e := srs.New(x.t, x.g, n); s != nil || e != api.ErrZero {
				t.Errorf("New(%v, %v, %d): %v, %v", x.t, x.g, n, s, e)
			}
		}
	}
	pairs = append(pairs, struct{ t, g fr.El }{one, one}, struct{ t, g fr.El }{fr.Of(-1), fr.Of(5)})
	for _, x := range pairs {
		for _, n := range wrongDegrees() {
			if s, e := srs.New(x.t, x.g, n); s != nil || e != api.ErrArg {
				t.Errorf("New(%v, %v, %d): %v, %v", x.t, x.g, n, s, e)
			}
		}
	}
}

func TestDegree(t *testing.T) {
	var none *srs.SRS
	if none.Degree() != -1 {
		t.Errorf("of nil: %d", none.Degree())
	}
	for powers := range 5 {
		for blinds := range 5 {
			s := &srs.SRS{Powers: make([]group.G1, powers), Blinds: make([]group.G1, blinds)}
			if s.Degree() != powers-1 {
				t.Errorf("of %d powers and %d blinds: %d", powers, blinds, s.Degree())
			}
		}
	}
	if d := (&srs.SRS{}).Degree(); d != -1 {
		t.Errorf("without powers: %d", d)
	}
	for _, n := range []int{api.MaxPower, api.MaxPower + 1, api.MaxPower + 2, 1 << 17} {
		if d := (&srs.SRS{Powers: make([]group.G1, n)}).Degree(); d != n-1 {
			t.Errorf("of %d powers: %d", n, d)
		}
	}
}

// P17.2

// ask is the question whether that of these multiples is good.
func ask(what string, x exps) question { return question{what, x.setup(), x.good()} }

// some fails if not just so many of the answers are to be true.
func some(t *testing.T, l []question, good int) {
	t.Helper()
	for _, x := range l {
		if x.good {
			good--
		}
	}
	if good != 0 {
		t.Errorf("%d more must be good", good)
	}
}

func TestGood(t *testing.T) {
	var l []question
	for i, tau := range append(secrets(), orders()...) {
		g := secrets()[(i*5+3)%len(secrets())]
		s := made(t, tau, g, 1+i%4)
		l = append(l, question{fmt.Sprintf("of %v, %v and %d", tau, g, 1+i%4), s, true})
		switch i % 3 {
		case 0:
			l = append(l, question{"read", got(t, bytesOf(t, s)), true})
		case 1:
			l = append(l, question{"of other values", other(s, 1+i/3%(ways-1)), true})
		}
	}
	twelve := made(t, number("123456789abcdef"), minus(3), 12)
	for n := 1; n <= 12; n += 3 {
		s, _ := twelve.Trim(n)
		l = append(l, question{fmt.Sprintf("trimmed to %d", n), s, true})
	}
	l = append(l, question{"of the degree 12", twelve, true}, question{"of the degree 20", made(t, whole(5), whole(7), 20), true})
	wantGood(t, l)
}

// Each setup of small numbers, of the degree 1.
func TestGoodOfSmallOnes(t *testing.T) {
	var l []question
	for _, p0 := range []int64{0, 1, 2, -1} {
		for _, p1 := range []int64{0, 1, 2, -1} {
			for _, b0 := range []int64{0, 1, 3, -1} {
				for _, b1 := range []int64{0, 1, 3, 6, -1, -3} {
					for _, tau := range []int64{0, 1, 2, -1} {
						x := exps{wholes(p0, p1), wholes(b0, b1), whole(tau)}
						l = append(l, ask(fmt.Sprint(p0, p1, b0, b1, tau), x))
					}
				}
			}
		}
	}
	some(t, l, 7) // t is 1, -1 or 2, g is 1, 3 or -1; but no second blind is 2 or -2
	wantGood(t, l)
}

// changes are multiples that differ from one.
func changes(k *big.Int) []*big.Int {
	l := []*big.Int{whole(0), new(big.Int).Neg(k), new(big.Int).Add(k, whole(1)), new(big.Int).Sub(k, whole(1)), new(big.Int).Add(k, k)}
	return slices.DeleteFunc(l, func(x *big.Int) bool { return mod(x).Cmp(mod(k)) == 0 })
}

// changed are setups of which one point is another one.
func changed(x exps) (l []question) {
	for i, k := range x.powers {
		for _, c := range changes(k) {
			o := x.clone()
			o.powers[i] = c
			l = append(l, ask(fmt.Sprintf("the power %d is %v in place of %v", i, c, k), o))
		}
	}
	for i, k := range x.blinds {
		for _, c := range changes(k) {
			o := x.clone()
			o.blinds[i] = c
			l = append(l, ask(fmt.Sprintf("the blind %d is %v in place of %v", i, c, k), o))
		}
	}
	for _, c := range changes(x.tau) {
		o := x.clone()
		o.tau = c
		l = append(l, ask(fmt.Sprintf("Tau is %v in place of %v", c, x.tau), o))
	}
	return l
}

func TestOnePointIsAnotherOne(t *testing.T) {
	var l []question
	for _, x := range []exps{expsOf(whole(5), whole(7), 1), expsOf(whole(2), whole(3), 2), expsOf(number("123456789abcdef"), minus(4), 4), expsOf(whole(1), whole(1), 3), expsOf(minus(1), whole(2), 3)} {
		l = append(l, changed(x)...)
	}
	some(t, l, 0)
	wantGood(t, l)
}

// Two places' points change places, or one stands at another one's too.
func TestPointsAtOtherPlaces(t *testing.T) {
	var l []question
	x := expsOf(whole(2), whole(3), 3)
	for i := range x.powers {
		for j := range i {
			a, b, c, d := x.clone(), x.clone(), x.clone(), x.clone()
			a.powers[i], a.powers[j] = x.powers[j], x.powers[i]
			b.blinds[i], b.blinds[j] = x.blinds[j], x.blinds[i]
			c.powers[i], d.blinds[j] = x.powers[j], x.blinds[i]
			l = append(l, ask(fmt.Sprint("powers ", i, j), a), ask(fmt.Sprint("blinds ", i, j), b))
			l = append(l, ask(fmt.Sprint("a power twice ", i, j), c), ask(fmt.Sprint("a blind twice ", i, j), d))
		}
	}
	o := exps{x.blinds, x.powers, x.tau}
	l = append(l, ask("powers and blinds", o), ask("both are blinds", exps{x.blinds, x.blinds, x.tau}))
	slices.Reverse(o.blinds)
	l = append(l, ask("backward", exps{x.powers, o.blinds, x.tau}))
	some(t, l, 0)
	l = append(l, ask("both are powers", expsOf(whole(2), whole(1), 3)))
	wantGood(t, l)
}

// Faults that cancel out, were they all taken together.
func TestFaultsThatCancelOut(t *testing.T) {
	var l []question
	for _, m := range []int64{1, 5, -1} {
		x := expsOf(whole(3), whole(4), 4)
		more := func(l []*big.Int, i int, n int64) { l[i] = new(big.Int).Add(l[i], whole(n*m)) }
		a, b, c, d := x.clone(), x.clone(), x.clone(), x.clone()
		more(a.powers, 2, 1)
		more(a.powers, 3, -1)
		more(b.powers, 4, 1)
		more(b.blinds, 4, -1)
		more(c.blinds, 1, 1)
		more(c.blinds, 4, -1)
		more(d.powers, 1, 1)
		more(d.powers, 2, 3)
		more(d.powers, 3, 9)
		more(d.powers, 4, 27)
		for i, x := range []exps{a, b, c, d} {
			l = append(l, ask(fmt.Sprintf("the sums are right, %d times, %d", m, i), x))
		}
	}
	some(t, l, 0)
	wantGood(t, l)
}

// Both lists are of two secrets; or of one that Tau is not of.
func TestSecretsThatDiffer(t *testing.T) {
	three, two := expsOf(whole(3), whole(5), 2), expsOf(whole(2), whole(5), 2)
	l := []question{
		ask("the blinds'", exps{three.powers, two.blinds, whole(3)}),
		ask("the powers'", exps{three.powers, two.blinds, whole(2)}),
		ask("Tau's", exps{two.powers, two.blinds, whole(3)}),
		ask("its negative", exps{two.powers, two.blinds, whole(-2)}),
		ask("its inverse", exps{two.powers, two.blinds, new(big.Int).ModInverse(whole(2), r)}),
		ask("its square", exps{two.powers, two.blinds, whole(4)}),
		ask("1", exps{two.powers, two.blinds, whole(1)}),
	}
	some(t, l, 0)
	wantGood(t, l)
}

// A secret may not be 0, and the first power is the generator.
func TestSecretsThatMayNotBe(t *testing.T) {
	var l []question
	for n := 1; n <= 4; n++ {
		zeros := make([]*big.Int, n)
		for i := range zeros {
			zeros[i] = whole(0)
		}
		behind := func(k int64) []*big.Int { return append(wholes(k), zeros...) }
		x := expsOf(whole(2), whole(3), n)
		l = append(l,
			ask("t is 0", exps{behind(1), behind(3), whole(0)}),
			ask("g is 0", exps{x.powers, behind(0), x.tau}),
			ask("both are 0", exps{behind(1), behind(0), whole(0)}),
			ask("Tau alone is 0", exps{x.powers, x.blinds, whole(0)}),
			ask("the powers alone are 0", exps{behind(1), x.blinds, x.tau}),
			ask("the blinds alone are 0", exps{x.powers, behind(3), x.tau}),
			ask("all is 0", exps{behind(0), behind(0), whole(0)}),
			ask("all but Tau is 0", exps{behind(0), behind(0), whole(2)}),
			ask("no powers' first", exps{behind(0), x.blinds, x.tau}),
		)
		for _, k := range []int64{0, 2, -1, 3} {
			o := x.clone()
			for i := range o.powers {
				o.powers[i] = new(big.Int).Mul(o.powers[i], whole(k))
			}
			l = append(l, ask(fmt.Sprintf("the first power is %d, and all go with it", k), o))
			for i := range o.blinds {
				o.blinds[i] = new(big.Int).Mul(o.blinds[i], whole(k))
			}
			l = append(l, ask(fmt.Sprintf("the first power is %d, and blinds go with it too", k), o))
		}
	}
	some(t, l, 0)
	wantGood(t, l)
}

// cut are so many powers and blinds of a setup.
func cut(s *srs.SRS, powers, blinds int) *srs.SRS {
	return &srs.SRS{Powers: slices.Clone(s.Powers[:powers]), Blinds: slices.Clone(s.Blinds[:blinds]), Tau: s.Tau}
}

func TestGoodOfAnyLengths(t *testing.T) {
	s := made(t, whole(2), whole(3), 4)
	var none *srs.SRS
	l := []question{{"nil", none, false}, {"zero", &srs.SRS{}, false}}
	for powers := range 6 {
		for blinds := range 6 {
			what := fmt.Sprintf("%d powers and %d blinds", powers, blinds)
			l = append(l, question{what, cut(s, powers, blinds), powers == blinds && powers > 1})
		}
	}
	for _, o := range []*srs.SRS{cut(s, 1, 1), cut(s, 0, 0), cut(s, 1, 0), cut(s, 0, 1)} {
		o.Tau = gen2
		l = append(l, question{"Tau is the generator", o, false})
	}
	wantGood(t, l)
}

// Of more powers than there may be nothing is asked.
func TestGoodOfTooMany(t *testing.T) {
	s, e := most()
	wantMost(t, s, e)
	o := cut(s, api.MaxPower+1, api.MaxPower+1)
	next := func(p group.G1) group.G1 { return group.Mul1(p, el(mostT)) }
	o.Powers, o.Blinds = append(o.Powers, next(o.Powers[api.MaxPower])), append(o.Blinds, next(o.Blinds[api.MaxPower]))
	same := &srs.SRS{Powers: slices.Repeat([]group.G1{gen1}, api.MaxPower+2), Blinds: slices.Repeat([]group.G1{gen1}, api.MaxPower+2), Tau: gen2}
	more := &srs.SRS{Powers: slices.Repeat([]group.G1{gen1}, 1<<16+2), Blinds: slices.Repeat([]group.G1{gen1}, 1<<16+2), Tau: gen2}
	wantGood(t, []question{
		{"one power more", o, false}, {"one power more, all of 1", same, false}, {"2^16 + 2 powers", more, false},
		{"a blind more", cut(o, api.MaxPower+1, api.MaxPower+2), false}, {"a power more", cut(o, api.MaxPower+2, api.MaxPower+1), false},
	})
}

// Other values of one point are that point.
func TestGoodOfOtherValues(t *testing.T) {
	var l []question
	x := expsOf(whole(2), whole(3), 2)
	s, bad := x.setup(), x.clone()
	bad.blinds[2] = whole(13)
	for way := range ways {
		l = append(l, question{fmt.Sprint("the way ", way), other(s, way), true}, question{fmt.Sprint("no good one, the way ", way), other(bad.setup(), way), false})
	}
	for _, far := range []group.G1{{}, group.Curve1().Add(gen1, group.Curve1().Neg(gen1)), {X: fq.Of(1), Y: fq.Of(1)}} {
		o := cut(s, 3, 3)
		o.Blinds = []group.G1{far, far, far}
		p := cut(s, 3, 3)
		p.Powers[1], p.Powers[2] = far, far
		l = append(l, question{"far blinds", o, false}, question{"far powers", p, false})
	}
	for _, far := range []group.G2{{}, group.Curve2().Add(gen2, group.Curve2().Neg(gen2)), {X: fq2.Of(1, 0), Y: fq2.Of(1, 0)}} {
		o := cut(s, 2, 2)
		o.Powers[1], o.Blinds[1], o.Tau = group.G1{}, group.G1{}, far
		l = append(l, question{"a far Tau", o, false})
	}
	wantGood(t, l)
}

// P17.3

func TestTrim(t *testing.T) {
	x := expsOf(whole(7), minus(2), 9)
	s := made(t, whole(7), minus(2), 9)
	for n := 1; n <= 9; n++ {
		o, e := s.Trim(n)
		if e != api.OK || o.Degree() != n {
			t.Errorf("Trim(%d): %v", n, e)
			continue
		}
		want(t, fmt.Sprintf("trimmed to %d", n), o, expsOf(whole(7), minus(2), n))
		again, e := o.Trim(1)
		if e != api.OK {
			t.Errorf("Trim(1): %v", e)
		}
		want(t, fmt.Sprintf("trimmed to %d, and to 1", n), again, expsOf(whole(7), minus(2), 1))
	}
	want(t, "what was trimmed", s, x)
}

// Whether it is good is not asked.
func TestTrimOfWhatIsNotGood(t *testing.T) {
	for _, x := range []exps{
		{wholes(5, 0, 9, 9), wholes(0, 0, 2, 1), whole(0)},
		{wholes(0, 0, 0), wholes(0, 0, 0), whole(0)},
		{wholes(3, 1), wholes(0, 4), whole(-1)},
	} {
		s := x.setup()
		for n := 1; n < len(x.powers); n++ {
			o, e := s.Trim(n)
			if e != api.OK {
				t.Errorf("Trim(%d): %v", n, e)
				continue
			}
			want(t, fmt.Sprintf("trimmed to %d", n), o, exps{x.powers[:n+1], x.blinds[:n+1], x.tau})
		}
	}
}

func TestTrimOfGreatOnes(t *testing.T) {
	for _, n := range []int{api.MaxPower - 1, api.MaxPower, api.MaxPower + 1, 1 << 17} {
		s := &srs.SRS{Powers: slices.Repeat([]group.G1{gen1}, n+1), Blinds: slices.Repeat([]group.G1{{}}, n+1), Tau: gen2}
		for _, to := range []int{1, n - 1, n} {
			o, e := s.Trim(to)
			if e != api.OK || o.Degree() != to || len(o.Blinds) != to+1 || o.Powers[to] != gen1 || o.Tau != gen2 {
				t.Errorf("of %d, Trim(%d): %v", n, to, e)
			}
		}
		if o, e := s.Trim(n + 1); o != nil || e != api.ErrDegree {
			t.Errorf("of %d, Trim(%d): %v", n, n+1, e)
		}
	}
}

func TestTrimRefuses(t *testing.T) {
	s := made(t, whole(2), whole(3), 4)
	refuse := func(what string, s *srs.SRS, n int, e api.Errno) {
		t.Helper()
		if o, wrong := s.Trim(n); o != nil || wrong != e {
			t.Errorf("%s, Trim(%d): %v, %v, not %v", what, n, o, wrong, e)
		}
	}
	for _, n := range append(wrongDegrees(), 5, 6, api.MaxPower) {
		refuse("of 4", s, n, api.ErrDegree)
	}
	var none *srs.SRS
	for _, n := range append(wrongDegrees(), 1, 2) {
		refuse("nil", none, n, api.ErrNil)
		refuse("zero", &srs.SRS{}, n, api.ErrDegree)
		refuse("one power", cut(s, 1, 1), n, api.ErrDegree)
	}
	for powers := range 6 {
		for blinds := range 6 {
			for n := -1; n < 7 && powers != blinds; n++ {
				refuse(fmt.Sprintf("%d powers and %d blinds", powers, blinds), cut(s, powers, blinds), n, api.ErrDegree)
			}
		}
	}
}

// P17.4

func TestBytes(t *testing.T) {
	for i, tau := range secrets() {
		x := expsOf(tau, secrets()[(i*5+3)%len(secrets())], 1+i%4)
		if b := bytesOf(t, x.setup()); !bytes.Equal(b, x.text()) {
			t.Errorf("of %v: %x, not %x", tau, b, x.text())
		}
	}
	for _, x := range unlike() {
		for way := range ways {
			if b := bytesOf(t, other(x.setup(), way)); !bytes.Equal(b, x.text()) {
				t.Errorf("%x, not %x", b, x.text())
			}
		}
	}
}

// unlike are points that are no good setup.
func unlike() []exps {
	return []exps{
		{wholes(0, 0), wholes(0, 0), whole(0)},
		{wholes(1, 2), wholes(3, 4), whole(5)},
		{wholes(5, -4, 0), wholes(0, 3, -3), whole(-2)},
		{wholes(0, 0, 0, 1), wholes(-1, 0, 0, 0), whole(0)},
		{wholes(1, 2, 4), wholes(3, 6, 12), whole(3)},
	}
}

func TestBytesAtTheGreatestDegree(t *testing.T) {
	s, _ := most()
	b, e := s.Bytes()
	if e != api.OK || len(b) != 2+96*(api.MaxPower+1)+96 || b[0] != 64 || b[1] != 0 {
		t.Fatalf("%v, %d bytes", e, len(b))
	}
	for _, i := range mostPlaces() {
		if p := b[2+48*i:][:48]; !bytes.Equal(p, text1(raised(mostT, whole(1), i))) {
			t.Errorf("the power %d is %x", i, p)
		}
		if p := b[2+48*(api.MaxPower+1)+48*i:][:48]; !bytes.Equal(p, text1(raised(mostT, mostG, i))) {
			t.Errorf("the blind %d is %x", i, p)
		}
	}
	if !bytes.Equal(b[len(b)-96:], text2(mostT)) {
		t.Errorf("Tau is %x", b[len(b)-96:])
	}
}

// The degree takes both bytes.
func TestBytesOfDegrees(t *testing.T) {
	for _, n := range []int{1, 2, 127, 128, 255, 256, 257, 511, 512, 1000, 4095, 16383} {
		s := &srs.SRS{Powers: make([]group.G1, n+1), Blinds: make([]group.G1, n+1)}
		b := bytesOf(t, s)
		if len(b) != 2+96*(n+2) || int(b[0])*256+int(b[1]) != n {
			t.Errorf("%d bytes of the degree %d, that begin with %d %d", len(b), n, b[0], b[1])
		}
		far := append(slices.Repeat(text1(whole(0)), 2*(n+1)), text2(whole(0))...)
		if !bytes.Equal(b[2:], far) {
			t.Errorf("of the degree %d, of far ones: other bytes", n)
		}
		if s := got(t, b); s.Degree() != n || len(s.Blinds) != n+1 || s.Good() {
			t.Errorf("read, the degree is %d, not %d", s.Degree(), n)
		}
	}
}

func TestBytesRefuses(t *testing.T) {
	s := made(t, whole(2), whole(3), 4)
	refuse := func(what string, s *srs.SRS, e api.Errno) {
		t.Helper()
		if b, wrong := s.Bytes(); len(b) > 0 || wrong != e {
			t.Errorf("%s: %x, %v, not %v", what, b, wrong, e)
		}
	}
	refuse("nil", nil, api.ErrNil)
	refuse("zero", &srs.SRS{}, api.ErrArg)
	for powers := range 6 {
		for blinds := range 6 {
			if powers != blinds || powers < 2 {
				refuse(fmt.Sprintf("%d powers and %d blinds", powers, blinds), cut(s, powers, blinds), api.ErrArg)
			}
		}
	}
	for _, n := range []int{api.MaxPower + 1, api.MaxPower + 2, 1 << 15, 1 << 16, 1<<16 + 1, 1<<16 + 4, 1 << 17} {
		many := slices.Repeat([]group.G1{gen1}, n+1)
		refuse(fmt.Sprint("of the degree ", n), &srs.SRS{Powers: many, Blinds: many, Tau: gen2}, api.ErrArg)
		refuse("and one blind less", &srs.SRS{Powers: many, Blinds: many[1:], Tau: gen2}, api.ErrArg)
		refuse("and one power less", &srs.SRS{Powers: many[1:], Blinds: many, Tau: gen2}, api.ErrArg)
	}
	most := slices.Repeat([]group.G1{gen1}, api.MaxPower+1)
	refuse("the greatest degree, and one blind less", &srs.SRS{Powers: most, Blinds: most[1:], Tau: gen2}, api.ErrArg)
	refuse("the greatest degree, and one power less", &srs.SRS{Powers: most[1:], Blinds: most, Tau: gen2}, api.ErrArg)
}

func TestGet(t *testing.T) {
	for i, tau := range secrets() {
		x := expsOf(tau, secrets()[(i*5+3)%len(secrets())], 1+i%4)
		want(t, "of "+tau.String(), got(t, x.text()), x)
	}
	s := numbers{state: 2}
	for _, x := range append(unlike(), exps{[]*big.Int{s.big(), s.big()}, []*big.Int{s.big(), s.big()}, s.big()}) {
		want(t, "what is not good", got(t, x.text()), x)
	}
}

// It takes long to read points. So all are the far one, but for those that are looked
// at.
func TestGetAtTheGreatestDegree(t *testing.T) {
	b := append([]byte{64, 0}, slices.Repeat(text1(whole(0)), 2*(api.MaxPower+1))...)
	b = append(b, text2(mostT)...)
	for _, i := range mostPlaces() {
		copy(b[2+48*i:], text1(raised(mostT, whole(1), i)))
		copy(b[2+48*(api.MaxPower+1+i):], text1(raised(mostT, mostG, i)))
	}
	s, e := srs.Get(b)
	wantMost(t, s, e)
	refuse(t, "one byte less", b[:len(b)-1], api.ErrShort)
	refuse(t, "one byte more", append(slices.Clip(b), 0), api.ErrLong)
	copy(b[len(b)-96:], flaws(96)[4].text)
	refuse(t, "Tau that is not of the group", b, api.ErrGroup)
	copy(b[len(b)-96-48:], flaws(48)[2].text)
	refuse(t, "and the last blind that is above q", b, api.ErrField)
	copy(b[2+48*api.MaxPower:], flaws(48)[3].text)
	refuse(t, "and the last power that is no point", b, api.ErrCurve)
}

// Of each number of bytes.
func TestGetOfAnyLength(t *testing.T) {
	for _, n := range []int{1, 2, 5} {
		all := append(expsOf(whole(2), whole(3), n).text(), make([]byte, 200)...)
		right := 2 + 96*(n+2)
		for length := range len(all) + 1 {
			switch b := all[:length:length]; {
			case length < right:
				refuse(t, fmt.Sprint(length, " bytes"), b, api.ErrShort)
			case length > right:
				refuse(t, fmt.Sprint(length, " bytes"), b, api.ErrLong)
			default:
				got(t, b)
			}
		}
	}
	refuse(t, "nil", nil, api.ErrShort)
	refuse(t, "two setups", slices.Repeat(expsOf(whole(2), whole(3), 1).text(), 2), api.ErrLong)
}

// counted are bytes that begin with a degree; all points are wrong.
func counted(n, length int) []byte {
	b := bytes.Repeat([]byte{255}, length)
	b[0], b[1] = byte(n/256), byte(n%256)
	return b
}

// The degree is asked for ahead of the length, and the length ahead of the points.
func TestGetOfAnyDegree(t *testing.T) {
	for n := range 1 << 16 {
		if n > 300 && n%997 > 0 && (n < api.MaxPower-10 || n > api.MaxPower+10) && n < 1<<16-10 {
			continue
		}
		wrong, right := n < 1 || n > api.MaxPower, 2+96*(n+2)
		for _, length := range []int{2, 3, 50, 98, 193, right - 96, right - 1, right, right + 1, right + 96, right + 5000} {
			e := api.ErrForm
			switch {
			case wrong:
				e = api.ErrArg
			case length < right:
				e = api.ErrShort
			case length > right:
				e = api.ErrLong
			}
			refuse(t, fmt.Sprintf("%d bytes, of the degree %d", length, n), counted(n, length), e)
		}
	}
	for _, b := range [][]byte{{0}, {1}, {64}, {65}, {255}} {
		refuse(t, "one byte", b, api.ErrShort)
	}
	for _, b := range [][]byte{{0, 0}, {64, 1}, {65, 0}, {255, 255}, {128, 0}, {128, 1}} {
		refuse(t, "two bytes", b, api.ErrArg)
	}
	for _, b := range [][]byte{{0, 1}, {64, 0}, {1, 0}, {63, 255}} {
		refuse(t, "two bytes", b, api.ErrShort)
	}
}

// flaw is a point's bytes that are not read.
type flaw struct {
	text []byte
	e    api.Errno
}

// laid are so many bytes, with others at places.
func laid(length int, at map[int]byte) []byte {
	b := make([]byte, length)
	for i, x := range at {
		b[i] = x
	}
	return b
}

// flaws are of a point of G1, or, of 96 bytes, of G2.
func flaws(length int) []flaw {
	l := []flaw{
		{laid(length, map[int]byte{0: 128, length - 1: 1}), api.ErrForm},
		{laid(length, map[int]byte{0: 192}), api.ErrForm},
		{bytes.Repeat([]byte{63}, length), api.ErrField},
	}
	if length == 48 {
		return append(l, flaw{laid(48, map[int]byte{47: 4}), api.ErrCurve}, flaw{laid(48, map[int]byte{47: 2}), api.ErrGroup})
	}
	x1, x2 := laid(96, map[int]byte{47: 1, 95: 1}), laid(96, map[int]byte{47: 1, 95: 2})
	return append(l, flaw{x1, api.ErrCurve}, flaw{x2, api.ErrGroup})
}

// place is where a point's bytes lie, the points being counted from the first power
// on.
func place(i, n int) (from, to int) {
	from = 2 + 48*i
	if i == 2*(n+1) {
		return from, from + 96
	}
	return from, from + 48
}

// spoilt are bytes in which a point's are others.
func spoilt(b []byte, i, n, kind int) ([]byte, api.Errno) {
	b = slices.Clone(b)
	from, to := place(i, n)
	f := flaws(to - from)[kind]
	copy(b[from:to], f.text)
	return b, f.e
}

func TestGetTellsThePointsErrors(t *testing.T) {
	for _, n := range []int{1, 2, 3} {
		b := expsOf(whole(2), whole(3), n).text()
		for i := range 2*n + 3 {
			for kind := range 5 {
				bad, e := spoilt(b, i, n, kind)
				refuse(t, fmt.Sprintf("of the degree %d, the flaw %d of the point %d", n, kind, i), bad, e)
				refuse(t, "and a byte less", bad[:len(bad)-1], api.ErrShort)
				refuse(t, "and a byte more", append(slices.Clip(bad), 0), api.ErrLong)
			}
		}
	}
}

func TestGetTellsTheFirstPointsError(t *testing.T) {
	const n = 2
	b := expsOf(whole(2), whole(3), n).text()
	for i := range 2*n + 3 {
		for j := range i {
			for kind := range 5 {
				for k := range 5 {
					if k == kind {
						continue
					}
					later, _ := spoilt(b, i, n, k)
					both, e := spoilt(later, j, n, kind)
					refuse(t, fmt.Sprintf("the flaws %d of the point %d and %d of %d", kind, j, k, i), both, e)
				}
			}
		}
	}
	all := slices.Clone(b)
	for i := range 2*n + 3 {
		all, _ = spoilt(all, i, n, (i+3)%5)
	}
	refuse(t, "all are flaws", all, flaws(48)[3].e)
}

// A power's bytes are no point of G2, and half of Tau's are no point of G1.
func TestGetTakesEachGroupsPoints(t *testing.T) {
	b := expsOf(whole(2), whole(3), 1).text()
	swapped := slices.Concat(b[:2], b[len(b)-96:], b[98:len(b)-96], b[2:98])
	if s, e := srs.Get(swapped); s != nil || e == api.OK {
		t.Errorf("%v, %v", s, e)
	}
	if _, e := points.Get1([48]byte(b[len(b)-96:])); e == api.OK {
		t.Fatal("half of Tau's bytes are a point")
	}
}
