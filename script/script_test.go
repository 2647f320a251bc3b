package script_test

import (
	"encoding/hex"
	"math"
	"slices"
	"strconv"
	"strings"
	"testing"

	"marlinspike/api"
	"marlinspike/fr"
	"marlinspike/script"
)

// P16.1 and P16.2. The calls' forms are a part of them.
var (
	_ func(label string) (*script.Script, api.Errno)    = script.New
	_ func(s *script.Script, parts ...[]byte) api.Errno = (*script.Script).Absorb
	_ func(s *script.Script) (fr.El, api.Errno)         = (*script.Script).Draw
	_ func(s *script.Script, n int) (fr.El, api.Errno)  = (*script.Script).Outside
	_ func(s *script.Script) *script.Script             = (*script.Script).Clone
)

// What the tests hold the program against is held against what was published.
func TestModel(t *testing.T) {
	for text, wanted := range map[string]string{
		"":    "69217a3079908094e11121d042354a7c1f55b6482ca1a51e1b250dfd1ed0eef9",
		"abc": "508c5e8c327c14e2e1a72ba34eeb452f37458b209ed63a294d999b4c86675982",
	} {
		if got := hex.EncodeToString(sum([]byte(text))); got != wanted {
			t.Errorf("the sum of %q is %s, not %s", text, got, wanted)
		}
	}
	if r().Text(16) != "12ab655e9a2ca55660b44d1e5c37b00159aa76fed00000010a11800000000001" {
		t.Errorf("r is %x", r())
	}
}

func TestToldApart(t *testing.T) {
	for i, x := range apart() {
		label := string(counting(x.label))
		s, m := of(t, label), begun(label)
		for _, n := range x.counts {
			absorb(t, s, counting(n))
			m.absorb(counting(n))
		}
		for j := range 100 {
			what := "the script " + strconv.Itoa(i) + ", the challenge " + strconv.Itoa(j)
			got, wanted := draw(t, s), m.draw()
			want(t, what, got, wanted)
			if j < 3 {
				want(t, what+", apart", got, read(t, x.draws[j]))
			}
			if j == 99 {
				want(t, what+", apart", got, read(t, x.draws[3]))
			}
		}
	}
}

// Sums that are not below r are passed over, as many as come first.
func TestTriesToldApart(t *testing.T) {
	for i, x := range triesApart() {
		s, m := of(t, x.label), begun(x.label)
		want(t, x.label, draw(t, s), read(t, x.draw))
		want(t, x.label+" by the model", draw(t, of(t, x.label)), m.draw())
		if m.tries != x.tries || m.tries != i+1 {
			t.Errorf("%s: %d tries, not %d", x.label, m.tries, x.tries)
		}
		wantDraws(t, x.label+", behind it", s, m, 3)
	}
}

// P16.1

func labels() []string {
	l := []string{"", "x", "y", "xx", "\x00", "\x00\x00", "\x01", "\x00x", "x\x00", "\xff", "\xff\xfe\x80", "marlinspike", "ünïcödé, 点", strings.Repeat("ab", 500)}
	for _, n := range counts() {
		for _, b := range kinds(n) {
			l = append(l, string(b))
		}
	}
	return l
}

func TestNew(t *testing.T) {
	for _, label := range labels() {
		wantDraws(t, strconv.Quote(label), of(t, label), begun(label), 3)
	}
	for n := range 200 {
		for _, b := range kinds(n) {
			wantDraws(t, "a label of "+strconv.Itoa(n)+" bytes", of(t, string(b)), begun(string(b)), 1)
		}
	}
}

func TestLongestLabel(t *testing.T) {
	for _, n := range []int{api.MaxText / 2, api.MaxText - 64, api.MaxText - 2, api.MaxText - 1, api.MaxText} {
		for _, b := range kinds(n) {
			wantDraws(t, "a label of "+strconv.Itoa(n)+" bytes", of(t, string(b)), begun(string(b)), 1)
		}
	}
	for _, label := range []string{strings.Repeat("é", api.MaxText/2), strings.Repeat("点", api.MaxText/3) + "x"} {
		if len(label) != api.MaxText {
			t.Fatalf("%d bytes", len(label))
		}
		wantDraws(t, label[:3], of(t, label), begun(label), 1)
	}
}

func TestNewRefuses(t *testing.T) {
	var l []string
	for _, n := range []int{1, 2, 63, 64, 255, 256, 1000, api.MaxText, 10 * api.MaxText, 1 << 24} {
		l = append(l, strings.Repeat("x", api.MaxText+n), strings.Repeat("\x00", api.MaxText+n))
	}
	l = append(l, strings.Repeat("é", api.MaxText/2)+"x", strings.Repeat("é", api.MaxText), strings.Repeat("点", api.MaxText/3+1))
	for _, label := range l {
		if s, e := script.New(label); s != nil || e != api.ErrLong {
			t.Errorf("New of %d bytes: %v, %v", len(label), s, e)
		}
	}
	wantDraws(t, "behind refused labels", of(t, "x"), begun("x"), 3)
}

func TestAbsorb(t *testing.T) {
	for n := range 300 {
		for i, b := range kinds(n) {
			s, m := of(t, "x"), begun("x")
			absorb(t, s, b)
			m.absorb(b)
			wantDraws(t, strconv.Itoa(n)+" bytes of the kind "+strconv.Itoa(i), s, m, 1)
		}
	}
}

// One behind the other, with challenges between and without.
func TestAbsorbAgainAndAgain(t *testing.T) {
	for drawn := range 3 {
		s, m := of(t, "again"), begun("again")
		for _, n := range counts() {
			for i, b := range kinds(n) {
				absorb(t, s, b)
				m.absorb(b)
				what := strconv.Itoa(n) + " bytes of the kind " + strconv.Itoa(i)
				wantDraws(t, what, s, m, drawn)
				wantNext(t, what+", next", s, m)
			}
		}
	}
}

func TestAbsorbMuch(t *testing.T) {
	s, m := of(t, ""), begun("")
	for _, n := range []int{4095, 4096, 4097, 65534, 65535, 65536, 65537, 65600, 100000, 131072, api.MaxText - 65, api.MaxText - 64, api.MaxText - 1, api.MaxText} {
		for i, b := range kinds(n) {
			absorb(t, s, b)
			m.absorb(b)
			wantDraws(t, strconv.Itoa(n)+" bytes of the kind "+strconv.Itoa(i), s, m, 1)
		}
	}
}

// parted are bytes in parts of that length, but for the last one.
func parted(b []byte, length int) [][]byte { return slices.Collect(slices.Chunk(b, length)) }

// The limit is that of all parts.
func TestMostBytesInParts(t *testing.T) {
	b := counting(api.MaxText)
	none := make([][]byte, 1000)
	m := begun("most")
	m.absorb(b)
	for i, parts := range [][][]byte{
		{b},
		{b, nil},
		{b, {}, nil, {}, b[:0], b[len(b):]},
		{nil, b},
		{{}, nil, b, nil},
		append([][]byte{b}, none...),
		append(slices.Clone(none), b),
		{b[:1], b[1:]},
		{b[:len(b)-1], b[len(b)-1:]},
		{b[:len(b)-1], nil, b[len(b)-1:], nil},
		{b[:len(b)/2], b[len(b)/2:]},
		parted(b, 1),
		parted(b, 1000),
		append(parted(b, 1), none...),
	} {
		s := of(t, "most")
		absorb(t, s, parts...)
		wantNext(t, "the parting "+strconv.Itoa(i), s, m)
	}
}

// tooLong are lists of parts that have too many bytes, all together at least.
func tooLong() [][][]byte {
	b := counting(2*api.MaxText + 1)
	great := make([]byte, 1<<26)
	return [][][]byte{
		{b[:api.MaxText+1]},
		{make([]byte, api.MaxText+1)},
		{b},
		{great},
		{nil, b[:api.MaxText+1]},
		{b[:api.MaxText+1], nil, {}},
		{b[:api.MaxText], b[:1]},
		{b[:1], b[:api.MaxText]},
		{b[:api.MaxText], nil, nil, b[:1]},
		{b[:api.MaxText], nil, b[:1], nil},
		{b[:api.MaxText-1], b[:2]},
		{b[:api.MaxText/2], b[:api.MaxText/2], b[:1]},
		{b[:api.MaxText], b[:api.MaxText]},
		{b, nil},
		{b[:3], b, b[:3]},
		parted(b[:api.MaxText+1], 1),
		parted(b[:api.MaxText+1], 1000),
		slices.Repeat([][]byte{b[:300]}, 1000),
		slices.Repeat([][]byte{great}, 32), // 2^31 bytes
		slices.Repeat([][]byte{great}, 64),
		append(slices.Repeat([][]byte{great}, 64), b[:3]),
	}
}

func TestAbsorbRefuses(t *testing.T) {
	fresh, much := of(t, "refused"), of(t, "refused")
	mFresh, mMuch := begun("refused"), begun("refused")
	absorb(t, much, []byte("much"))
	mMuch.absorb([]byte("much"))
	wantDraws(t, "much", much, mMuch, 5)
	for i, parts := range tooLong() {
		for _, s := range []*script.Script{fresh, much} {
			if e := s.Absorb(parts...); e != api.ErrLong {
				t.Errorf("the list %d: %v", i, e)
			}
		}
		wantNext(t, "behind the list "+strconv.Itoa(i), fresh, mFresh)
		wantDraws(t, "much, behind the list "+strconv.Itoa(i), much, mMuch, 1)
	}
	absorb(t, fresh, []byte("more"))
	mFresh.absorb([]byte("more"))
	wantDraws(t, "more, behind all lists", fresh, mFresh, 3)
}

// An absorption of no bytes is one all the same, whatever it is made of.
func TestAbsorbNoBytes(t *testing.T) {
	b := counting(100)
	for i, parts := range [][][]byte{nil, {}, {nil}, {{}}, {nil, nil}, {{}, nil, {}}, {b[:0], b[100:]}, {make([]byte, 0, 64)}, make([][]byte, 5000), make([][]byte, 0, 10)} {
		for _, label := range []string{"", "x", "none"} {
			s, m := of(t, label), begun(label)
			without := draw(t, s.Clone())
			absorb(t, s, parts...)
			m.absorb(nil)
			once := draw(t, s.Clone())
			wantNext(t, "none, "+strconv.Itoa(i), s, m)
			absorb(t, s, parts...)
			m.absorb(nil)
			twice := draw(t, s.Clone())
			wantNext(t, "none twice, "+strconv.Itoa(i), s, m)
			if once == without || twice == once || twice == without {
				t.Errorf("%d: an absorption of no bytes is none", i)
			}
		}
	}
	s, m := of(t, "x"), begun("x")
	absorb(t, s)
	m.absorb(nil)
	wantDraws(t, "no parts", s, m, 3)
}

// P16.2

// Many, one behind the other: of several the first sums are not below r, and all
// of the highest three bits come, of those that are taken too.
func TestDraw(t *testing.T) {
	tries, dropped := map[int]int{}, map[byte]int{}
	for _, label := range []string{"", "draw", "\x03"} {
		s, m := of(t, label), begun(label)
		for i := range 1500 {
			want(t, label+", the challenge "+strconv.Itoa(i), draw(t, s), m.draw())
			tries[m.tries]++
			dropped[m.dropped[m.tries-1]]++
		}
	}
	for n := 1; n <= 8; n++ {
		if tries[n] == 0 {
			t.Errorf("no challenge is the %dth that is tried", n)
		}
		if bits := byte(n - 1); dropped[bits] < 100 {
			t.Errorf("the highest bits %d are dropped %d times", bits, dropped[bits])
		}
	}
}

func TestChallengesAreBelowR(t *testing.T) {
	s := of(t, "below")
	seen := map[fr.El]int{}
	for i := range 1000 {
		x := draw(t, s)
		if back, e := fr.From(x.Scalar()); e != api.OK || back != x {
			t.Errorf("the challenge %d: %v", i, e)
		}
		if before, is := seen[x]; is {
			t.Errorf("the challenges %d and %d are the same", before, i)
		}
		seen[x] = i
	}
}

// A challenge is said, too: what comes behind it hangs on how many there were.
func TestDrawGoesOn(t *testing.T) {
	for n := range 30 {
		s, m := of(t, "on"), begun("on")
		for range n {
			draw(t, s)
			m.draw()
		}
		absorb(t, s, []byte("on"))
		m.absorb([]byte("on"))
		wantDraws(t, "behind "+strconv.Itoa(n)+" challenges", s, m, 3)
	}
}

// sizes are numbers from 1 to MaxDomain: all up to some hundred, powers of 2, those
// beside them, and some between them.
func sizes() []int {
	var l []int
	for n := 1; n <= 300; n++ {
		l = append(l, n)
	}
	for n := 256; n <= api.MaxDomain; n *= 2 {
		l = append(l, n-1, n)
		if n < api.MaxDomain {
			l = append(l, n+1, n+n/2, n+n/3, n+5)
		}
	}
	return append(l, 499, 998, 1365, 4095, 31937, 43690, 65534)
}

// Outside draws challenges as Draw does, as long as their n-th power is 1, which is
// so of none that a test could find.
func TestOutside(t *testing.T) {
	s, m := of(t, "outside"), begun("outside")
	one := of(t, "outside")
	for _, n := range sizes() {
		what := "Outside(" + strconv.Itoa(n) + ")"
		x := outside(t, s, n)
		want(t, what, x, m.outside(n))
		y := draw(t, one)
		for y.Pow([]uint64{uint64(n)}) == fr.Of(1) {
			y = draw(t, one)
		}
		if x != y {
			t.Errorf("%s is not what is drawn one by one", what)
		}
		if x.Pow([]uint64{uint64(n)}) == fr.Of(1) {
			t.Errorf("%s: the power is 1", what)
		}
	}
	wantDraws(t, "behind all of them", s, m, 10)
}

// Which n it is plays no part but by powers.
func TestOutsideOfOneScript(t *testing.T) {
	s := of(t, "one")
	absorb(t, s, []byte("said"))
	wanted := draw(t, s.Clone())
	for _, n := range sizes() {
		other := s.Clone()
		if x := outside(t, other, n); x != wanted {
			t.Errorf("Outside(%d): %x, not %x", n, x.Scalar(), wanted.Scalar())
		}
		again := s.Clone()
		draw(t, again)
		if draw(t, other) != draw(t, again) {
			t.Errorf("behind Outside(%d) another one is drawn", n)
		}
	}
}

func TestOutsideBetween(t *testing.T) {
	s, m := of(t, "between"), begun("between")
	for i, n := range sizes() {
		want(t, "Outside", outside(t, s, n), m.outside(n))
		if i%3 > 0 {
			absorb(t, s, counting(i))
			m.absorb(counting(i))
		}
		if i%2 > 0 {
			wantDraws(t, "between", s, m, 1)
		}
	}
}

// badSizes are numbers that Outside refuses.
func badSizes() []int {
	l := []int{0, math.MinInt, math.MinInt + 1, math.MinInt32, math.MaxInt, math.MaxInt - 1, math.MaxInt32, 1 << 32, 1<<32 + 1, 1<<32 + 8, 1 << 62, 3 << 32, math.MinInt + 8}
	for n := 1; n <= 1<<20; n *= 2 {
		l = append(l, -n, -n-1, api.MaxDomain+n, 2*api.MaxDomain*n)
	}
	return l
}

func TestOutsideRefuses(t *testing.T) {
	s, m := of(t, "refused"), begun("refused")
	for _, n := range badSizes() {
		if x, e := s.Outside(n); x != (fr.El{}) || e != api.ErrSize {
			t.Errorf("Outside(%d): %x, %v", n, x.Scalar(), e)
		}
		wantDraws(t, "behind Outside("+strconv.Itoa(n)+")", s, m, 1)
	}
	want(t, "Outside", outside(t, s, api.MaxDomain), m.outside(api.MaxDomain))
	want(t, "Outside", outside(t, s, 1), m.outside(1))
}

func TestNilScripts(t *testing.T) {
	var s *script.Script
	for _, parts := range append(tooLong(), nil, [][]byte{}, [][]byte{nil}, [][]byte{{1}}) {
		if e := s.Absorb(parts...); e != api.ErrNil {
			t.Errorf("Absorb of nil: %v", e)
		}
	}
	if x, e := s.Draw(); x != (fr.El{}) || e != api.ErrNil {
		t.Errorf("Draw of nil: %x, %v", x.Scalar(), e)
	}
	for _, n := range append(badSizes(), sizes()...) {
		if x, e := s.Outside(n); x != (fr.El{}) || e != api.ErrNil {
			t.Errorf("Outside(%d) of nil: %x, %v", n, x.Scalar(), e)
		}
	}
	if c := s.Clone(); c != nil {
		t.Errorf("Clone of nil: %v", c)
	}
}

func TestClone(t *testing.T) {
	for _, much := range []int{0, 1, 2, 500} {
		s, m := of(t, "clone"), begun("clone")
		absorb(t, s, counting(much))
		m.absorb(counting(much))
		wantDraws(t, "before", s, m, much)
		a, ma := s.Clone(), m.clone()
		if a == nil || a == s {
			t.Fatal("no other one")
		}
		wantNext(t, "a clone", a, ma)
		absorb(t, a, []byte("a"))
		ma.absorb([]byte("a"))
		wantNext(t, "behind what was said to the clone", s, m)
		absorb(t, s, []byte("s"))
		m.absorb([]byte("s"))
		wantNext(t, "behind what was said to the first", a, ma)
		wantDraws(t, "drawn of the clone", a, ma, 3)
		wantNext(t, "behind what was drawn of the clone", s, m)
		wantDraws(t, "drawn of the first", s, m, 5)
		wantNext(t, "behind what was drawn of the first", a, ma)
		want(t, "Outside of the clone", outside(t, a, 8), ma.outside(8))
		wantNext(t, "behind Outside of the clone", s, m)
		wantDraws(t, "the first at the end", s, m, 3)
		wantDraws(t, "the clone at the end", a, ma, 3)
	}
}

// Clones of clones, each of which goes on apart from all others.
func TestClonesOfClones(t *testing.T) {
	scripts, models := []*script.Script{of(t, "all")}, []*model{begun("all")}
	for i := range 40 {
		last := len(scripts) - 1
		scripts, models = append(scripts, scripts[last].Clone()), append(models, models[last].clone())
		absorb(t, scripts[last], counting(i))
		models[last].absorb(counting(i))
		if i%3 == 0 {
			wantDraws(t, "drawn between", scripts[last+1], models[last+1], 1)
		}
	}
	for range 3 {
		for i, s := range slices.Backward(scripts) {
			wantDraws(t, "the clone "+strconv.Itoa(i), s, models[i], 1)
		}
	}
}

// The chapter's example.
func TestExample(t *testing.T) {
	s := of(t, "example")
	for range 50 {
		if x := outside(t, s, 4); x.Mul(x).Mul(x).Mul(x) == fr.Of(1) {
			t.Errorf("the fourth power of %x is 1", x.Scalar())
		}
	}
}
