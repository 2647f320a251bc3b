package points_test

import (
	"bytes"
	"fmt"
	"math/big"
	"testing"

	"marlinspike/api"
	"marlinspike/curve"
	"marlinspike/fq"
	"marlinspike/fq2"
	"marlinspike/fr"
	"marlinspike/group"
	"marlinspike/points"
)

// P10.1

func TestPut(t *testing.T) { both(t, func(w checks) { w.puts(t) }) }

func TestPutOfTheFarOne(t *testing.T) { both(t, func(w checks) { w.farPuts(t) }) }

func TestPutOfSeveralValues(t *testing.T) { both(t, func(w checks) { w.values(t) }) }

func TestPutOfTheCurve(t *testing.T) { both(t, func(w checks) { w.outside(t) }) }

// wantText fails if a point's bytes are not those that the document says.
func (w *world[E]) wantText(t *testing.T, what string, p curve.Point[E], s spot) {
	t.Helper()
	if got, want := w.put(p), w.text(s); !bytes.Equal(got, want) {
		t.Errorf("%s: %s has the bytes %x, not %x", w.name, what, got, want)
	}
}

func (w *world[E]) puts(t *testing.T) {
	seen := map[bool]int{}
	for _, k := range scalars() {
		p := w.mul(w.gen, k)
		s := w.told(p)
		w.wantText(t, fmt.Sprint("the generator times ", k.Nat()), p, s)
		w.wantText(t, fmt.Sprint("the generator times ", k.Nat(), ", its negative"), w.c.Neg(p), s.neg())
		high := w.put(p)[0] &^ 1 // an x leaves the others
		if high != 0 && high != 64 || (high == 64) != s.y.great() {
			t.Errorf("%s: the first byte is %d, and y is great: %v", w.name, w.put(p)[0], s.y.great())
		}
		seen[s.y.great()]++
	}
	if seen[true] < 5 || seen[false] < 5 {
		t.Errorf("%s: %v", w.name, seen)
	}
}

func (w *world[E]) farPuts(t *testing.T) {
	g, c := w.gen, w.c
	l := []curve.Point[E]{
		{}, w.mul(g, fr.El{}), c.Mul(g, nil), c.Mul(g, fr.Modulus()), c.Add(g, c.Neg(g)),
		c.Neg(curve.Point[E]{}), c.Add(w.mul(g, fr.Of(5)), w.mul(g, fr.Of(-5))), c.Add(curve.Point[E]{}, curve.Point[E]{}),
	}
	for i, p := range l {
		if got := w.put(p); got[0] != 128 || !bytes.Equal(got[1:], make([]byte, 48*w.parts-1)) {
			t.Errorf("%s: the far one, by its value %d, has the bytes %x", w.name, i, got)
		}
	}
}

func (w *world[E]) values(t *testing.T) {
	l, _ := w.found(3)
	l = append(l, spot{}, w.told(w.gen), w.told(w.gen).neg(), w.told(w.mul(w.gen, fr.Of(77))))
	for _, s := range l {
		for i, p := range w.several(t, w.value(t, s)) {
			w.wantText(t, fmt.Sprintf("the value %d of %v", i, s), p, s)
		}
	}
}

// outside asks of points of the curve that are not of the group.
func (w *world[E]) outside(t *testing.T) {
	l, _ := w.found(8)
	for _, s := range l {
		for _, s := range []spot{s, s.neg()} {
			p := w.value(t, s)
			if w.member(t, s) {
				t.Fatalf("%s: %v is of the group", w.name, s)
			}
			w.wantText(t, fmt.Sprint("the point of the x ", s.x), p, s)
			sum := w.c.Add(p, w.gen)
			w.wantText(t, "it and the generator", sum, w.told(sum))
			twice := w.c.Add(p, p)
			w.wantText(t, "twice it", twice, w.told(twice))
		}
	}
}

func TestPutOfSmallOrders(t *testing.T) {
	minus := offQ(-1).Bytes()
	table := []struct {
		x, y int64
		want [48]byte
	}{
		{0, 1, [48]byte{}}, {0, -1, [48]byte{64}},
		{2, 3, [48]byte{47: 2}}, {2, -3, [48]byte{0: 64, 47: 2}},
		{-1, 0, [48]byte(minus)},
	}
	for _, row := range table {
		p, e := group.Curve1().Of(fq.Of(row.x), fq.Of(row.y))
		if got := points.Put1(p); e != api.OK || got != row.want {
			t.Errorf("(%d, %d) has the bytes %x, %v", row.x, row.y, got, e)
		}
	}
}

// upright are the three points of G1's curve whose y is 0: their x is -1, or
// -1 times a root of 1 of the order 3.
func upright(t *testing.T) (l []spot) {
	t.Helper()
	turn := new(big.Int).Exp(big.NewInt(2), new(big.Int).Div(offQ(-1), big.NewInt(3)), q())
	x := offQ(-1)
	for range 3 {
		l = append(l, spot{num{x, new(big.Int)}, small(0, 0), true})
		x = byQ(new(big.Int).Mul(x, turn))
	}
	if l[0].same(l[1]) || x.Cmp(offQ(-1)) != 0 {
		t.Fatal("no three roots")
	}
	return l
}

func TestPutOfYZero(t *testing.T) {
	w := one()
	for _, s := range upright(t) {
		p := w.value(t, s)
		w.wantText(t, "a point whose y is 0", p, s)
		w.wantText(t, "its negative", w.c.Neg(p), s)
		w.wantText(t, "3 times it", w.c.Mul(p, []uint64{3}), s)
		if b := points.Put1(p); b[0]&192 != 0 {
			t.Errorf("0 is great: %x", b)
		}
	}
}

// Of G2 the bytes of B are ahead of those of A.
func TestPutOfPairs(t *testing.T) {
	for n := range int64(20) {
		p := group.Mul2(group.Gen2(), fr.Of(n+1))
		x, _, _ := group.Curve2().Affine(p)
		b := points.Put2(p)
		b[0] &= 63
		if x.B.Bytes() != [48]byte(b[:48]) || x.A.Bytes() != [48]byte(b[48:]) || x.A == x.B {
			t.Errorf("%d times the generator: %x of %v", n+1, b, x)
		}
	}
	p, e := group.Curve2().Of(fq2.Of(2, 1), lifted(t, 2))
	if b := points.Put2(p); e != api.OK || b != [96]byte{47: 1, 95: 2} {
		t.Errorf("the point of 2 + u has the bytes %x, %v", b, e)
	}
}

// lifted is the y above n + u that is not great.
func lifted(t *testing.T, n int64) fq2.El {
	t.Helper()
	w := two()
	s, ok := w.lift(w.at(n))
	if !ok {
		t.Fatal("no point")
	}
	return w.elem(s.y)
}

// Of a pair that y is, B tells whether it is great, and A only where B is 0.
func TestGreatPairs(t *testing.T) {
	w := two()
	seen := map[[2]bool]int{}
	for _, k := range scalars() {
		p := w.mul(w.gen, k)
		s := w.told(p)
		w.wantText(t, "a multiple", p, s)
		if got := w.put(p)[0]&64 != 0; got != great(s.y.b) {
			t.Errorf("%v is great: %v", s.y, got)
		}
		seen[[2]bool{great(s.y.a), great(s.y.b)}]++
	}
	if len(seen) != 4 {
		t.Errorf("%v", seen)
	}
	for _, a := range []int64{4, 11} {
		s := spot{cubeRoot(t, small(a*a, 0).add(w.b.neg())), small(a, 0), true}
		for _, s := range []spot{s, s.neg()} {
			p := w.value(t, s)
			w.wantText(t, "a point whose y is a coordinate", p, s)
			if got := w.put(p)[0]&64 != 0; got != great(s.y.a) {
				t.Errorf("%v is great: %v", s.y, got)
			}
		}
	}
}

// cubeRoot is what three times by itself is a number. As 3 goes just once into
// q^2 - 1, of numbers that have one it is a power.
func cubeRoot(t *testing.T, x num) num {
	t.Helper()
	n := new(big.Int).Mul(q(), q())
	n.Div(n, big.NewInt(3))
	e := new(big.Int).ModInverse(big.NewInt(3), n)
	root := small(1, 0)
	for i := e.BitLen() - 1; i >= 0; i-- {
		root = root.mul(root)
		if e.Bit(i) == 1 {
			root = root.mul(x)
		}
	}
	if !root.mul(root).mul(root).same(x) {
		t.Fatalf("%v has no cube root", x)
	}
	return root
}

// Bytes that were worked out apart from this program.
func TestBytesAsNumbers(t *testing.T) {
	table := []struct {
		k      int64
		b1, b2 string
	}{
		{
			1,
			"408848defe740a67c8fc6225bf87ff5485951e2caa9d41bb188282c8bd37cb5cd5481512ffcd394eeab9b16eb21be9ef",
			"0138c24b2b4e17888beed0a9802aac837cdea39890effe00072f754ecb0152dd6cb524f281298966dbaeca23d3e462b8006f72205595a839df693176b247c2fa251f7e02a29061e50540dc9e1c2bf1957bf1bab2288c257c2cb36b58f2418bc9",
		},
		{
			2,
			"00ed453141939e91056edb5a4b5452ed7e61f7f3dd2a4b7ee90e97c9a2301955880661656781dc90857aed6d6a416390",
			"417c2e424cbdbf1ee9b46e77501f7a42a33065ec23b70eaff560a3764ac1305d1de691498793026bb60e88cfe266bf9f0093660a719c197fb32dde0327ead3a456bfafde84471ed4cd9d719666b6b48b6fa52990b62f905cb7d8d5aa28b1d746",
		},
		{
			5,
			"4017052d4e3eb642d32ef4989af253cc2a30ad376ce8f0b23c92b987e95cc718d02072bb78d37c09fd76f7014eecf797",
			"00072bb41e8eb9fa1e84682050c817e077b9bf68174275d22906562d9421fd8dcbfb27ff1e72f5006d0e5b7d1a13e0e20050aca8646d0d9e5ca1aea779976c211f5ad94137c225c633edadc1bad71cecb41be8bfe11b6281259f671aa62f5849",
		},
		{
			-7,
			"00916932fceb94ad7b80fcf492aa5ee0e120410017cc6d17c8962ba2eb799260d022c3de5a103e6edbb5ee9135c7f0fa",
			"40e69e015835863614c96ca3db0686ac66d07fd1148389ea6ee13bbcc0803a0a70b82a70d436152f4001d477d472a207008d1c88e298054af7f20d05937ffefc8fa5b2f64306dcfa24afb500578412c53c1f352e85541363554ec8a2f045a65a",
		},
	}
	for _, row := range table {
		p, h := group.Mul1(group.Gen1(), fr.Of(row.k)), group.Mul2(group.Gen2(), fr.Of(row.k))
		b1, b2 := [48]byte(unhex(t, row.b1)), [96]byte(unhex(t, row.b2))
		if points.Put1(p) != b1 || points.Put2(h) != b2 {
			t.Errorf("%d times: %x, %x", row.k, points.Put1(p), points.Put2(h))
		}
		p1, e1 := points.Get1(b1)
		p2, e2 := points.Get2(b2)
		if e1 != api.OK || e2 != api.OK || !group.Curve1().Same(p1, p) || !group.Curve2().Same(p2, h) {
			t.Errorf("%d times, read: %v, %v", row.k, e1, e2)
		}
	}
}

// P10.2

func TestGet(t *testing.T) { both(t, func(w checks) { w.gets(t) }) }

func TestGetOfTheFarOne(t *testing.T) { both(t, func(w checks) { w.farGets(t) }) }

func TestGetRefusesByOrder(t *testing.T) { both(t, func(w checks) { w.refusals(t) }) }

func TestGetRefusesNumbersAbove(t *testing.T) { both(t, func(w checks) { w.fields(t) }) }

func TestGetRefusesWhereThereIsNoPoint(t *testing.T) { both(t, func(w checks) { w.misses(t) }) }

func TestGetRefusesWhatIsNotOfTheGroup(t *testing.T) { both(t, func(w checks) { w.members(t) }) }

func (w *world[E]) gets(t *testing.T) {
	seen := map[bool]int{}
	for _, k := range scalars() {
		p := w.mul(w.gen, k)
		s := w.told(p)
		for _, s := range []spot{s, s.neg()} {
			b := w.text(s)
			got, e := w.get(b)
			if e != api.OK || !w.told(got).same(s) || !w.c.Same(got, w.value(t, s)) {
				t.Errorf("%s: of %x: %v, %v, not %v", w.name, b, w.told(got), e, s)
			}
			if w.ask(t, b) != api.OK {
				t.Errorf("%s: %x is not read", w.name, b)
			}
			seen[b[0] >= 64]++
		}
	}
	if seen[true] != seen[false] || seen[true] < 10 {
		t.Errorf("%s: %v", w.name, seen)
	}
}

// farGets: 128 and 0 behind, and nothing else that begins so.
func (w *world[E]) farGets(t *testing.T) {
	p, e := w.get(w.far())
	if e != api.OK || !w.c.Same(p, curve.Point[E]{}) || w.told(p).is {
		t.Errorf("%s: the far one's bytes: %v, %v", w.name, p, e)
	}
	for i := range w.far() {
		for bit := range 8 {
			b := w.far()
			b[i] ^= 1 << bit
			if b[0] >= 128 {
				w.refuse(t, "128 and one bit more", b, api.ErrForm)
			}
		}
	}
	for first := 129; first < 256; first++ {
		w.refuse(t, "128 and more in the first byte", with(w.far(), byte(first)), api.ErrForm)
	}
	full := bytes.Repeat([]byte{255}, 48*w.parts)
	w.refuse(t, "all 255", full, api.ErrForm)
	full[0] = 128
	w.refuse(t, "255 behind", full, api.ErrForm)
}

// kinds are x of each kind that there is, by what they are, as bytes without
// more in the first one.
func (w *world[E]) kinds(t *testing.T) map[string][][]byte {
	t.Helper()
	l := map[string][][]byte{}
	more := func(kind string, x num) { l[kind] = append(l[kind], w.lay(x)) }
	out, none := w.found(4)
	for i := range out {
		more("out", out[i].x)
		more("none", none[i])
		more("in", w.told(w.mul(w.gen, fr.Of(int64(i+1)))).x)
	}
	for _, b := range []*big.Int{q(), offQ(1), offQ(2), new(big.Int).Lsh(q(), 1), power(377), power(381)} {
		more("above", num{b, new(big.Int)})
		if w.parts == 2 {
			more("above", num{new(big.Int), b})
			more("above", num{b, b})
			more("above", num{offQ(-1), b})
			more("above", num{b, offQ(-1)})
			more("above", num{b, big.NewInt(1)})
			more("above", num{big.NewInt(2), b})
		}
	}
	if w.parts == 1 {
		for _, s := range upright(t) {
			more("upright", s.x)
		}
	}
	return l
}

// refusals: whatever x is, with whatever stands beside it in the first byte.
func (w *world[E]) refusals(t *testing.T) {
	table := map[string][2]api.Errno{ // alone, and with 64
		"in":      {api.OK, api.OK},
		"out":     {api.ErrGroup, api.ErrGroup},
		"upright": {api.ErrGroup, api.ErrForm},
		"none":    {api.ErrCurve, api.ErrCurve},
		"above":   {api.ErrField, api.ErrField},
	}
	for kind, l := range w.kinds(t) {
		for _, b := range l {
			for i, first := range []byte{0, 64} {
				if e := table[kind][i]; e != api.OK {
					w.refuse(t, kind, with(b, first), e)
				} else if w.ask(t, with(b, first)) != api.OK {
					t.Errorf("%s: %x is not of the group", w.name, with(b, first))
				}
			}
			for _, first := range []byte{128, 192, 255} {
				if !bytes.Equal(with(b, first), w.far()) {
					w.refuse(t, kind, with(b, first), api.ErrForm)
				}
			}
		}
	}
}

// fields: no number is taken by q, each part is asked, and only the first byte
// of all has more beside a number.
func (w *world[E]) fields(t *testing.T) {
	g := w.told(w.gen)
	zero := new(big.Int)
	for often := int64(1); often < 36; often++ {
		above := new(big.Int).Mul(q(), big.NewInt(often))
		for _, first := range []byte{0, 64} {
			for _, x := range []num{g.x, w.at(0), w.at(2)} {
				a, b := new(big.Int).Add(x.a, above), new(big.Int).Add(x.b, above)
				w.refuse(t, "A and q so often", with(w.lay(num{a, x.b}), first), api.ErrField)
				if w.parts == 2 {
					w.refuse(t, "B and q so often", with(w.lay(num{x.a, b}), first), api.ErrField)
					w.refuse(t, "both", with(w.lay(num{a, b}), first), api.ErrField)
				}
			}
			w.refuse(t, "q so often", with(w.lay(num{above, zero}), first), api.ErrField)
		}
	}
	for part := range w.parts {
		for bit := range 8 {
			b := w.lay(g.x)
			b[48*part] |= 1 << bit
			if bit == 0 || part == 0 && bit > 5 {
				continue
			}
			w.refuse(t, fmt.Sprintf("the bit %d of the part %d", bit, part), b, api.ErrField)
		}
		b := w.lay(g.x)
		copy(b[48*part:], append([]byte{1}, bytes.Repeat([]byte{255}, 47)...))
		w.refuse(t, "1 and 47 times 255", b, api.ErrField)
	}
	w.ask(t, w.lay(num{offQ(-1), zero}))
	w.ask(t, w.lay(num{offQ(-2), zero}))
}

// q - 1 is a coordinate, of both parts.
func TestGetOfTheGreatestNumbers(t *testing.T) {
	w, v, zero := one(), two(), new(big.Int)
	w.refuse(t, "-1", w.lay(num{offQ(-1), zero}), api.ErrGroup)
	for n := int64(1); n < 6; n++ {
		for _, x := range []num{small(-n, 0), small(0, -n), small(-n, -n), small(-n, n), small(n, -n)} {
			for _, first := range []byte{0, 64} {
				if e := v.ask(t, with(v.lay(x), first)); e == api.ErrField || e == api.ErrForm {
					t.Errorf("%v: %v", x, e)
				}
			}
		}
	}
}

func (w *world[E]) misses(t *testing.T) {
	_, none := w.found(12)
	for _, x := range none {
		w.refuse(t, "no point", w.lay(x), api.ErrCurve)
		w.refuse(t, "no point, and 64", with(w.lay(x), 64), api.ErrCurve)
	}
}

func (w *world[E]) members(t *testing.T) {
	l, _ := w.found(6)
	for _, s := range l {
		sum := w.told(w.c.Add(w.value(t, s), w.gen))
		part := w.told(w.c.Mul(w.value(t, s), fr.Modulus()))
		if !part.is {
			t.Fatalf("%s: %v is of the group", w.name, s)
		}
		for _, s := range []spot{s, s.neg(), sum, sum.neg(), part, part.neg()} {
			w.refuse(t, fmt.Sprint("not of the group: ", s), w.text(s), api.ErrGroup)
		}
	}
}

// 64 beside an x whose y is 0 is told ahead of the group.
func TestGetRefusesAGreatZero(t *testing.T) {
	w := one()
	for _, s := range upright(t) {
		w.refuse(t, "y is 0", w.lay(s.x), api.ErrGroup)
		w.refuse(t, "y is 0, and 64", with(w.lay(s.x), 64), api.ErrForm)
		w.refuse(t, "y is 0, and 128", with(w.lay(s.x), 128), api.ErrForm)
	}
	b := offQ(-1).Bytes() // of (-1, 0)
	if p, e := points.Get1([48]byte(b)); e != api.ErrGroup || p != (group.G1{}) {
		t.Errorf("-1: %v", e)
	}
	if p, e := points.Get1([48]byte(with(b, 64))); e != api.ErrForm || p != (group.G1{}) {
		t.Errorf("-1, and 64: %v", e)
	}
}

// Points of small orders, none of which r is a multiple of.
func TestGetRefusesSmallOrders(t *testing.T) {
	for _, b := range [][48]byte{{}, {0: 64}, {47: 2}, {0: 64, 47: 2}} {
		if p, e := points.Get1(b); e != api.ErrGroup || p != (group.G1{}) {
			t.Errorf("%x: %v", b, e)
		}
	}
	if p, e := points.Get2([96]byte{}); e != api.ErrCurve || p != (group.G2{}) { // 1 / u is no square
		t.Errorf("0: %v", e)
	}
	if p, e := points.Get2([96]byte{47: 1, 95: 2}); e != api.ErrGroup || p != (group.G2{}) {
		t.Errorf("2 + u: %v", e)
	}
	if p, e := points.Get2([96]byte{47: 1}); e != api.ErrCurve || p != (group.G2{}) {
		t.Errorf("u: %v", e)
	}
}

// The document's examples.
func TestExamples(t *testing.T) {
	full := [48]byte(bytes.Repeat([]byte{255}, 48))
	above := full
	above[0] = 1
	table := []struct {
		b [48]byte
		e api.Errno
	}{
		{[48]byte{0: 128}, api.OK}, {[48]byte{0: 128, 47: 1}, api.ErrForm}, {[48]byte{47: 2}, api.ErrGroup},
		{full, api.ErrForm}, {above, api.ErrField},
	}
	for _, row := range table {
		if p, e := points.Get1(row.b); e != row.e || !group.Curve1().Same(p, group.G1{}) {
			t.Errorf("%x: %v", row.b, e)
		}
	}
	for _, y := range []int64{3, -3} {
		p, _ := group.Curve1().Of(fq.Of(2), fq.Of(y))
		six := group.Curve1().Mul(p, []uint64{6})
		if !group.Curve1().Same(six, group.G1{}) || group.In1(p) {
			t.Errorf("(2, %d)", y)
		}
	}
}
