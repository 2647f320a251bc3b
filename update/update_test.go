package update_test

import (
	"bytes"
	"crypto/sha256"
	"encoding/hex"
	"fmt"
	"math/big"
	"slices"
	"strings"
	"testing"

	"marlinspike/api"
	"marlinspike/fr"
	"marlinspike/group"
	"marlinspike/points"
	"marlinspike/srs"
	"marlinspike/update"
)

// P18.1. The calls' forms are a part of the promises.
var (
	_ func(s *srs.SRS, d fr.El) (*srs.SRS, update.Step, api.Errno) = update.Update
	_ func(from, to *srs.SRS, steps []update.Step) api.Errno       = update.Chain
	_ func(steps []update.Step) ([]byte, api.Errno)                = update.Bytes
	_ func(b []byte) ([]update.Step, api.Errno)                    = update.Get
	_ func(from, to, steps []byte) api.Errno                       = update.Check
	_ struct {
		A group.G1
		D group.G2
	} = update.Step{}
)

// sumOf is the sum by SHA-256, by 16.
func sumOf(b []byte) string {
	sum := sha256.Sum256(b)
	return hex.EncodeToString(sum[:])
}

// numbersOf are the numbers of hexadecimal digits.
func numbersOf(l []string) (ks []*big.Int) {
	for _, digits := range l {
		ks = append(ks, number(digits))
	}
	return ks
}

// product is that of numbers, by r.
func product(l ...*big.Int) *big.Int {
	all := whole(1)
	for _, k := range l {
		all = mod(new(big.Int).Mul(all, k))
	}
	return all
}

// per is what times k is 1.
func per(k *big.Int) *big.Int { return new(big.Int).ModInverse(mod(k), r) }

// What the tests hold the program against is held against what was worked out apart.
func TestModel(t *testing.T) {
	want := strings.Join(strings.Fields(textOfTwoSteps), "")
	if got := hex.EncodeToString(hopTexts(hopsOf(whole(2), whole(5), whole(-7)))); got != want {
		t.Errorf("it is %s, not %s", got, want)
	}
	for _, x := range allApart()[:4] {
		hops := hopsOf(number(x.t), numbersOf(x.ds)...)
		end := expsOf(product(append(numbersOf(x.ds), number(x.t))...), number(x.g), x.n)
		if sumOf(hopTexts(hops)) != x.steps || sumOf(end.text()) != x.end {
			t.Errorf("from %s, %s on, of the degree %d, it is another one", x.t, x.g, x.n)
		}
		if !leads(expsOf(number(x.t), number(x.g), x.n), end, hops) {
			t.Errorf("from %s, %s on it is no chain", x.t, x.g)
		}
	}
}

// P18.1, P18.2, P18.3
func TestToldApart(t *testing.T) {
	l := allApart()
	together(len(l), func(i int) {
		x := l[i]
		s := made(t, number(x.t), number(x.g), x.n)
		to, steps := s, []update.Step(nil)
		for _, d := range numbersOf(x.ds) {
			o, step := updated(t, to, d)
			to, steps = o, append(steps, step)
		}
		if sumOf(stepsBytes(t, steps)) != x.steps || sumOf(bytesOf(t, to)) != x.end {
			t.Errorf("from %s, %s on, of the degree %d, it is another one", x.t, x.g, x.n)
		}
		if e := update.Chain(s, to, steps); e != api.OK {
			t.Errorf("from %s, %s on: %v", x.t, x.g, e)
		}
	})
}

// minus is r less n.
func minus(n int64) *big.Int { return new(big.Int).Sub(r, whole(n)) }

// scalars are some that are not 0.
func scalars() []*big.Int {
	s := numbers{state: 1}
	l := append(wholes(1, 2, 3, 255, 256, 257, 1<<32), minus(1), minus(2), minus(256))
	for _, bits := range []uint{64, 248, 252} {
		l = append(l, new(big.Int).Lsh(whole(1), bits))
	}
	return append(l, new(big.Int).Rsh(r, 1), per(whole(2)), s.big(), s.big())
}

// wantUpdated fails if Update of what is told by its multiples is not what it must be.
func wantUpdated(t *testing.T, what string, s *srs.SRS, x exps, d *big.Int) {
	t.Helper()
	o, step := updated(t, s, d)
	want(t, what, o, x.updated(d))
	wantSteps(t, what, []update.Step{step}, []hop{{product(x.powers[1], d), d}})
}

func TestUpdate(t *testing.T) {
	l := scalars()
	for i, d := range l {
		tau, g := l[(i*5+3)%len(l)], l[(i*7+1)%len(l)]
		for _, n := range []int{1, 2, 3 + i%3} {
			what := fmt.Sprintf("of %v, %v and %d by %v", tau, g, n, d)
			s := made(t, tau, g, n)
			wantUpdated(t, what, s, expsOf(tau, g, n), d)
			o, _ := updated(t, s, d)
			want(t, what, o, expsOf(product(tau, d), g, n))
			want(t, what+": what was updated", s, expsOf(tau, g, n))
		}
	}
}

func TestUpdateExample(t *testing.T) {
	s := made(t, whole(2), whole(3), 2)
	o, x := updated(t, s, whole(5))
	want(t, "of 2, 3 by 5", o, exps{wholes(1, 10, 100), wholes(3, 30, 300), whole(10)})
	wantSteps(t, "of 2, 3 by 5", []update.Step{x}, []hop{{whole(10), whole(5)}})
	p, y := updated(t, o, whole(-7))
	want(t, "by -7 too", p, exps{wholes(1, -70, 4900), wholes(3, -210, 14700), whole(-70)})
	if text := hex.EncodeToString(stepsBytes(t, []update.Step{x, y})); text != strings.Join(strings.Fields(textOfTwoSteps), "") {
		t.Errorf("the steps' bytes are %s", text)
	}
}

// Each power and each blind, one by one.
func TestUpdateOfDegrees(t *testing.T) {
	for _, n := range []int{1, 2, 3, 4, 5, 8, 17, 40} {
		x := expsOf(whole(3), whole(7), n)
		wantUpdated(t, fmt.Sprint("of the degree ", n), made(t, whole(3), whole(7), n), x, whole(-11))
	}
}

// By 1, by -1, and to the secrets 1, t again, and -t.
func TestUpdateToKnownSecrets(t *testing.T) {
	l := []*big.Int{whole(2), minus(1), whole(1), number("123456789abcdef"), minus(77)}
	together(len(l), func(i int) {
		tau := l[i]
		s := made(t, tau, whole(3), 3)
		for _, d := range []*big.Int{whole(1), minus(1), per(tau), product(minus(1), per(tau)), tau, product(per(tau), per(tau))} {
			o, step := updated(t, s, d)
			want(t, fmt.Sprint(tau, " by ", d), o, expsOf(product(tau, d), whole(3), 3))
			wantSteps(t, fmt.Sprint(tau, " by ", d), []update.Step{step}, hopsOf(tau, d))
			if !o.Good() {
				t.Errorf("%v by %v is not good", tau, d)
			}
			back, _ := updated(t, o, per(d))
			want(t, fmt.Sprint(tau, " there and back by ", d), back, expsOf(tau, whole(3), 3))
		}
	})
	s := made(t, whole(2), whole(5), 3)
	o, step := updated(t, s, per(whole(2)))
	want(t, "the secret 1", o, exps{wholes(1, 1, 1, 1), wholes(5, 5, 5, 5), whole(1)})
	wantSteps(t, "the secret 1", []update.Step{step}, []hop{{whole(1), per(whole(2))}})
}

// badOnes are points that are no good setup.
func badOnes() []exps {
	return []exps{
		{wholes(0, 0), wholes(0, 0), whole(0)},
		{wholes(1, 2), wholes(3, 4), whole(5)},
		{wholes(5, -4, 0), wholes(0, 3, -3), whole(-2)},
		{wholes(0, 0, 0, 1), wholes(-1, 0, 0, 0), whole(0)},
		{wholes(1, 2, 4), wholes(3, 6, 12), whole(3)},
		{wholes(7, 9, 4, 3, 2), wholes(1, 1, 1, 1, 1), whole(1)},
		{wholes(0, 1, 0), wholes(0, 0, 1), whole(0)},
	}
}

// Whether it is good is not asked.
func TestUpdateOfWhatIsNotGood(t *testing.T) {
	for i, x := range badOnes() {
		for _, d := range []*big.Int{whole(1), whole(5), minus(3), per(whole(9))} {
			wantUpdated(t, fmt.Sprintf("the setup %d by %v", i, d), x.setup(), x, d)
		}
	}
}

// Other values of one point are that point.
func TestUpdateOfOtherValues(t *testing.T) {
	for _, x := range append(badOnes(), expsOf(whole(2), whole(3), 2), expsOf(minus(5), whole(9), 3)) {
		for way := range ways {
			wantUpdated(t, fmt.Sprint("the way ", way), other(x.setup(), way), x, minus(6))
		}
	}
}

// Lists may be of any length from 2 on. It takes long to multiply points, so all are
// the far one, but for those that are looked at.
func TestUpdateOfGreatOnes(t *testing.T) {
	d := number("fedcba9876543210123456789abcdefffeeddccbbaa99887766554433221100")
	for _, n := range []int{api.MaxPower - 1, api.MaxPower, api.MaxPower + 1, api.MaxPower + 2, 1 << 16} {
		s := &srs.SRS{Powers: make([]group.G1, n+1), Blinds: make([]group.G1, n+1), Tau: gen2}
		places := []int{0, 1, 2, 255, 256, 1000, n / 2, n - 1, n}
		for _, i := range places {
			s.Powers[i], s.Blinds[i] = points1.tell(whole(int64(i+2))), points1.tell(whole(int64(-i-5)))
		}
		o, step := updated(t, s, d)
		if len(o.Powers) != n+1 || len(o.Blinds) != n+1 {
			t.Fatalf("%d powers and %d blinds, of the degree %d", len(o.Powers), len(o.Blinds), n)
		}
		for _, i := range places {
			p, b := points.Put1(o.Powers[i]), points.Put1(o.Blinds[i])
			if !bytes.Equal(p[:], text1(raised(d, whole(int64(i+2)), i))) || !bytes.Equal(b[:], text1(raised(d, whole(int64(-i-5)), i))) {
				t.Errorf("of the degree %d the power or the blind %d is another one", n, i)
			}
		}
		for i, p := range o.Powers {
			far := !slices.Contains(places, i)
			if group.Curve1().Same(p, group.G1{}) != far || group.Curve1().Same(o.Blinds[i], group.G1{}) != far {
				t.Errorf("of the degree %d the power or the blind %d is another one", n, i)
			}
		}
		wantSteps(t, "of great ones", []update.Step{step}, []hop{{product(whole(3), d), d}})
		if b := points.Put2(o.Tau); !bytes.Equal(b[:], text2(d)) {
			t.Errorf("Tau is %x", b)
		}
	}
}

// cut are so many powers and blinds of a setup.
func cut(s *srs.SRS, powers, blinds int) *srs.SRS {
	return &srs.SRS{Powers: slices.Clone(s.Powers[:powers]), Blinds: slices.Clone(s.Blinds[:blinds]), Tau: s.Tau}
}

func TestUpdateRefuses(t *testing.T) {
	refuse := func(what string, s *srs.SRS, d *big.Int, e api.Errno) {
		t.Helper()
		if o, step, wrong := update.Update(s, el(d)); o != nil || step != (update.Step{}) || wrong != e {
			t.Errorf("%s, by %v: %v, %v, %v, not %v", what, d, o, step, wrong, e)
		}
	}
	s := made(t, whole(2), whole(3), 4)
	for _, d := range []*big.Int{whole(0), r, whole(1), whole(5), minus(1)} {
		refuse("nil", nil, d, api.ErrNil)
		refuse("zero", &srs.SRS{}, d, api.ErrArg)
		refuse("Tau alone", &srs.SRS{Tau: gen2}, d, api.ErrArg)
		for powers := range 6 {
			for blinds := range 6 {
				what := fmt.Sprintf("%d powers and %d blinds", powers, blinds)
				switch {
				case powers != blinds || powers < 2:
					refuse(what, cut(s, powers, blinds), d, api.ErrArg)
				case mod(d).Sign() == 0:
					refuse(what, cut(s, powers, blinds), d, api.ErrDraw)
				default:
					if _, _, e := update.Update(cut(s, powers, blinds), el(d)); e != api.OK {
						t.Errorf("%s, by %v: %v", what, d, e)
					}
				}
			}
		}
		many := make([]group.G1, api.MaxPower+1)
		refuse("a blind less", &srs.SRS{Powers: many, Blinds: many[1:], Tau: gen2}, d, api.ErrArg)
		refuse("a power less", &srs.SRS{Powers: many[1:], Blinds: many, Tau: gen2}, d, api.ErrArg)
		refuse("one power", &srs.SRS{Powers: many[:1], Blinds: many, Tau: gen2}, d, api.ErrArg)
	}
	for i, x := range badOnes() {
		refuse(fmt.Sprint("the setup ", i), x.setup(), whole(0), api.ErrDraw)
		refuse(fmt.Sprint("the setup ", i), x.setup(), r, api.ErrDraw)
	}
}

// updated are the multiples of what Update makes of it, by the chapter's words.
func (x exps) updated(d *big.Int) exps {
	o := exps{tau: product(x.tau, d)}
	for i := range x.powers {
		o.powers = append(o.powers, raised(d, x.powers[i], i))
		o.blinds = append(o.blinds, raised(d, x.blinds[i], i))
	}
	return o
}
