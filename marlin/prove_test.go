package marlin_test

import (
	"fmt"
	"math/big"
	"slices"
	"testing"

	"marlinspike/api"
	"marlinspike/fr"
	"marlinspike/group"
	"marlinspike/marlin"
	"marlinspike/proof"
	"marlinspike/srs"
	"marlinspike/update"
)

// P29.1: Draws and Prove.

// refusal is a circuit that pad refuses.
type refusal struct {
	what string
	c    api.Circuit
	e    api.Errno
}

// refusals are some, by each error, of one that is none.
func refusals(good api.Circuit) (l []refusal) {
	add := func(what string, e api.Errno, change func(c *api.Circuit)) {
		c := task{c: good}.clone().c
		change(&c)
		l = append(l, refusal{what, c, e})
	}
	add("no rows", api.ErrArg, func(c *api.Circuit) { c.Rows = 0 })
	add("1025 rows", api.ErrArg, func(c *api.Circuit) { c.Rows = api.MaxRows + 1 })
	add("no columns", api.ErrArg, func(c *api.Circuit) { c.Cols = 0 })
	add("1025 columns", api.ErrArg, func(c *api.Circuit) { c.Cols = api.MaxRows + 1 })
	add("2^32 - 1 rows", api.ErrArg, func(c *api.Circuit) { c.Rows = 1<<32 - 1 })
	add("no inputs", api.ErrArg, func(c *api.Circuit) { c.Inputs = 0 })
	add("more inputs than columns", api.ErrArg, func(c *api.Circuit) { c.Inputs = c.Cols + 1 })
	for i := range 3 {
		name := fmt.Sprint(", in the matrix ", i)
		of := func(change func(m *[]api.Entry)) func(c *api.Circuit) {
			return func(c *api.Circuit) { change(matrices(c)[i]) }
		}
		add("4097 entries"+name, api.ErrLong, of(func(m *[]api.Entry) { *m = make([]api.Entry, api.MaxEntry+1) }))
		add("a row out of bounds"+name, api.ErrIndex, func(c *api.Circuit) { (*matrices(c)[i])[0].Row = c.Rows })
		add("a column out of bounds"+name, api.ErrIndex, func(c *api.Circuit) { (*matrices(c)[i])[0].Col = c.Cols })
		add("an entry twice"+name, api.ErrIndex, of(func(m *[]api.Entry) { *m = append(*m, (*m)[len(*m)-1]) }))
		add("no scalar"+name, api.ErrField, of(func(m *[]api.Entry) { (*m)[0].Val = bytesOf(r) }))
		add("32 bytes 255"+name, api.ErrField, of(func(m *[]api.Entry) { (*m)[0].Val = api.Scalar(slices.Repeat([]byte{255}, 32)) }))
		add("a 0"+name, api.ErrZero, of(func(m *[]api.Entry) { (*m)[len(*m)-1].Val = api.Scalar{} }))
	}
	return append(l, refusal{"the zero value", api.Circuit{}, api.ErrArg})
}

func TestDraws(t *testing.T) {
	l := tasks()
	for _, x := range []sketch{
		{1024, 1024, 1, 1, 1, 2}, {1, 1024, 1024, 2, 2, 2}, {3, 1024, 513, 0, 0, 1}, {1024, 1, 1, 4, 5, 6}, {1, 3, 2, 0, 0, 0},
		{64, 65, 1, 0, 0, 0}, {64, 64, 1, 0, 0, 0}, {65, 64, 1, 0, 0, 0}, {2, 64, 33, 0, 0, 0}, {2, 64, 32, 0, 0, 0},
	} {
		l = append(l, task{c: api.Circuit{Rows: uint32(x.rows), Cols: uint32(x.cols), Inputs: uint32(x.inputs)}})
	}
	seen := map[int]bool{}
	for i, x := range l {
		n, e := marlin.Draws(x.c)
		if wanted := drawsFor(x.c); n != wanted || e != api.OK {
			t.Errorf("the circuit %d: %d, %v, not %d", i, n, e, wanted)
		}
		seen[n] = true
	}
	if len(seen) < 8 || !seen[11+2*2] || !seen[11+2*2048] {
		t.Errorf("of %d sizes", len(seen))
	}
}

func TestDrawsRefused(t *testing.T) {
	told := map[api.Errno]bool{}
	for _, good := range []api.Circuit{square().c, cube().c} {
		for _, x := range refusals(good) {
			told[x.e] = true
			if n, e := marlin.Draws(x.c); n != 0 || e != x.e {
				t.Errorf("%s: %d, %v, not %v", x.what, n, e, x.e)
			}
		}
	}
	if len(told) != 5 {
		t.Errorf("errors %v", told)
	}
}

// wantProven fails if Prove does not tell the proof by the chapters' words, or if that is
// not told to be what it is by the same words.
func wantProven(t *testing.T, what string, s *srs.SRS, o exps, x task, d []*big.Int) {
	t.Helper()
	w := o.provenBy(t, x, d)
	p := proveOf(t, what, s, x, d)
	wantProof(t, what, p, w.p)
	k := keyOf(t, what, s, x.c)
	text, e := k.Bytes()
	if e != api.OK {
		t.Errorf("%s: %v", what, e)
	}
	wantKey(t, what, text, w.k)
	if e, wanted := marlin.Verify(k, els(w.in), p), w.question().verdict(); e != wanted {
		t.Errorf("%s: Verify: %v, not %v", what, e, wanted)
	}
}

// All circuits, by draws of all kinds, by setups of the need and of more.
func TestProve(t *testing.T) {
	l := tasks()
	together(len(l), func(i int) {
		x, s := l[i], numbers{state: uint64(200 + i)}
		all := s.manyDraws(x.c)
		for j := range 2 {
			tau, g, d := s.big(), s.big(), needOf(x.c)+[]int{0, 1, 13}[(i+j)%3]
			name := fmt.Sprintf("the circuit %d by %v, %v, of the degree %d, the draws %d", i, tau, g, d, (i+j)%len(all))
			wantProven(t, name, made(t, tau, g, d), expsOf(tau, g, d), x, all[(i+j)%len(all)])
		}
	})
}

// The document's circuits by all kinds of draws, and by all kinds of secrets.
func TestProveByManyDraws(t *testing.T) {
	s := numbers{state: 31}
	type one struct {
		task
		tau, g *big.Int
		d      []*big.Int
	}
	var l []one
	for _, x := range []task{square(), cube(), s.satisfied(sketch{6, 5, 5, 15, 16, 15})} {
		for _, d := range s.manyDraws(x.c) {
			l = append(l, one{x, s.great(), s.great(), d})
		}
		if x.c.Rows > 3 {
			continue
		}
		for _, k := range append(wholes(1, 2, -1), number(great1), elementsOf(16)[3]) {
			l = append(l, one{x, k, s.big(), s.draws(x.c)}, one{x, s.big(), k, s.draws(x.c)}, one{x, k, k, s.draws(x.c)})
		}
	}
	together(len(l), func(i int) {
		x, d := l[i], needOf(l[i].c)+i%3
		wantProven(t, fmt.Sprint("the case ", i), made(t, x.tau, x.g, d), expsOf(x.tau, x.g, d), x.task, x.d)
	})
}

// One draw alone is another one: it goes where it belongs.
func TestProveDrawByDraw(t *testing.T) {
	x := square()
	s, o := made(t, whole(5), whole(7), 12), expsOf(whole(5), whole(7), 12)
	seen := map[string]bool{}
	for i := range 19 {
		d := repeat(whole(0), 19)
		d[i] = whole(1)
		what := fmt.Sprint("the draw ", i)
		p := proveOf(t, what, s, x, d)
		wantProof(t, what, p, o.provenBy(t, x, d).p)
		seen[string(p.Bytes())] = true
	}
	if len(seen) != 19 {
		t.Errorf("%d proofs", len(seen))
	}
}

// By a setup of no two secrets a proof is made all the same, which is not accepted.
func TestProveByNoGoodSetups(t *testing.T) {
	s := numbers{state: 32}
	l := append(tasks()[:8], s.satisfied(sketch{6, 5, 5, 15, 16, 15}))
	together(len(l), func(i int) {
		s := numbers{state: uint64(300 + i)}
		x, o := l[i], loose(needOf(l[i].c)+i%2)
		wantProven(t, fmt.Sprint("the circuit ", i, ", loose"), o.setup(), o, x, s.draws(x.c))
		o = expsOf(whole(5), whole(7), o.degree())
		o.tau = whole(6) // of another secret
		wantProven(t, fmt.Sprint("the circuit ", i, ", another Tau"), o.setup(), o, x, s.draws(x.c))
		o.tau, o.powers[1] = whole(5), whole(8)
		wantProven(t, fmt.Sprint("the circuit ", i, ", another power"), o.setup(), o, x, s.draws(x.c))
		far := exps{repeat(whole(0), o.degree()+1), repeat(whole(0), o.degree()+1), whole(0)}
		wantProven(t, fmt.Sprint("the circuit ", i, ", all far"), far.setup(), far, x, s.draws(x.c))
	})
}

// An updated setup proves as that of both secrets, and so does one read from its bytes, one
// that was trimmed, and one told by other values.
func TestProveByOtherWays(t *testing.T) {
	l := []task{square(), cube()}
	for i, x := range l {
		s := numbers{state: uint64(40 + i)}
		tau, g, by, d := s.big(), s.big(), s.big(), needOf(x.c)
		draws := s.draws(x.c)
		long := made(t, tau, g, d+9)
		later, step, e := update.Update(trimmed(t, long, d), el(by))
		if e != api.OK || step.A == (group.G1{}) {
			t.Fatal(e)
		}
		last, _, e := update.Update(later, el(whole(-3)))
		if e != api.OK {
			t.Fatal(e)
		}
		text, e := later.Bytes()
		if e != api.OK {
			t.Fatal(e)
		}
		read, e := srs.Get(text)
		if e != api.OK {
			t.Fatal(e)
		}
		once, twice := expsOf(times(tau, by), g, d), expsOf(times(tau, by, minus(3)), g, d)
		wantProven(t, "trimmed", trimmed(t, long, d), expsOf(tau, g, d), x, draws)
		wantProven(t, "updated", later, once, x, draws)
		wantProven(t, "updated twice", last, twice, x, draws)
		wantProven(t, "read", read, once, x, draws)
		for way := range ways {
			wantProven(t, "told by other values", otherSetup(later, way), once, x, draws)
		}
	}
}

// asked is what Prove is.
type asked struct {
	s    *srs.SRS
	c    api.Circuit
	z, d []fr.El
}

// fault is something no good, by what is refused for it, in the order of the chapter.
type fault struct {
	what string
	rank int
	e    api.Errno
	part int // the argument that it is in
	do   func(x *asked)
}

// unlike is a setup of so many powers and blinds.
func unlike(s *srs.SRS, powers, blinds int) *srs.SRS {
	all := slices.Repeat([]group.G1{gen1}, 99)
	return &srs.SRS{Powers: slices.Concat(s.Powers, all)[:powers], Blinds: slices.Concat(s.Blinds, all)[:blinds], Tau: s.Tau}
}

// ones is the setup of 1 and g, of any degree, which takes no time to make.
func ones(g *big.Int, n int) *srs.SRS {
	return &srs.SRS{
		Powers: slices.Repeat([]group.G1{gen1}, n+1),
		Blinds: slices.Repeat([]group.G1{points1.tell(g)}, n+1), Tau: gen2,
	}
}

// faults are all kinds of them, for a task by a setup of just the need.
func faults(x task, s *srs.SRS) (l []fault) {
	add := func(rank int, what string, e api.Errno, part int, do func(x *asked)) {
		l = append(l, fault{what, rank, e, part, do})
	}
	add(0, "no setup", api.ErrNil, 0, func(x *asked) { x.s = nil })
	for _, y := range refusals(x.c) {
		add(1, y.what, y.e, 1, func(x *asked) { x.c = y.c })
	}
	add(2, "no draws", api.ErrArg, 3, func(x *asked) { x.d = nil })
	add(2, "an empty list of draws", api.ErrArg, 3, func(x *asked) { x.d = []fr.El{} })
	add(2, "a draw less", api.ErrArg, 3, func(x *asked) { x.d = x.d[1:] })
	add(2, "a draw more", api.ErrArg, 3, func(x *asked) { x.d = append(slices.Clone(x.d), fr.El{}) })
	add(2, "the rounds' draws alone", api.ErrArg, 3, func(x *asked) { x.d = x.d[8:] })
	add(3, "no assignment", api.ErrArg, 2, func(x *asked) { x.z = nil })
	add(3, "a scalar less", api.ErrArg, 2, func(x *asked) { x.z = x.z[:len(x.z)-1] })
	add(3, "a scalar more", api.ErrArg, 2, func(x *asked) { x.z = append(slices.Clone(x.z), fr.El{}) })
	add(3, "a padded assignment", api.ErrArg, 2, func(x *asked) { x.z = append(slices.Clone(x.z), make([]fr.El, 8)...)[:drawsFor(x.c)/2-5] })
	add(3, "a first scalar of 2", api.ErrCheck, 2, func(x *asked) { x.z = append(els(wholes(2)), x.z[1:]...) })
	add(3, "a first scalar of 0", api.ErrCheck, 2, func(x *asked) { x.z = append(els(wholes(0)), x.z[1:]...) })
	add(3, "another input", api.ErrCheck, 2, func(x *asked) { x.z = slices.Concat(x.z[:1], els(wholes(36)), x.z[2:]) })
	add(3, "another last scalar", api.ErrCheck, 2, func(x *asked) { x.z = append(slices.Clone(x.z[:len(x.z)-1]), fr.Of(77)) })
	need := needOf(x.c)
	add(4, "a power less", api.ErrArg, 0, func(x *asked) { x.s = unlike(s, need, need+1) })
	add(4, "a blind less", api.ErrArg, 0, func(x *asked) { x.s = unlike(s, need+1, need) })
	add(4, "no blinds", api.ErrArg, 0, func(x *asked) { x.s = unlike(s, need+1, 0) })
	add(4, "a blind more", api.ErrArg, 0, func(x *asked) { x.s = unlike(s, need+1, need+2) })
	add(5, "a degree above all", api.ErrArg, 0, func(x *asked) { x.s = ones(whole(3), api.MaxPower+1) })
	add(6, "the need less 1", api.ErrDegree, 0, func(x *asked) { x.s = unlike(s, need, need) })
	add(6, "a power and a blind", api.ErrDegree, 0, func(x *asked) { x.s = unlike(s, 1, 1) })
	add(6, "the zero value of a setup", api.ErrDegree, 0, func(x *asked) { x.s = &srs.SRS{} })
	return l
}

// Each fault alone, and each two of unlike arguments: the one that the chapter names first
// goes ahead.
func TestProveRefused(t *testing.T) {
	for i, x := range []task{square(), cube()} {
		s := made(t, whole(2), whole(3), needOf(x.c))
		l := faults(x, s)
		for _, f := range l {
			q := asked{s, x.c, els(x.z), els(counting(drawsFor(x.c)))}
			f.do(&q)
			refuseProve(t, fmt.Sprint("the circuit ", i, ", ", f.what), q.s, q.c, q.z, q.d, f.e)
			for _, g := range l {
				if g.rank <= f.rank || g.part == f.part {
					continue
				}
				o := q
				if g.part == 1 || f.part == 1 {
					o = asked{s, x.c, els(x.z), els(counting(drawsFor(x.c)))} // what hangs on the circuit goes by the good one
					g.do(&o)
					f.do(&o)
				} else {
					g.do(&o)
				}
				refuseProve(t, fmt.Sprint("the circuit ", i, ", ", f.what, ", ", g.what), o.s, o.c, o.z, o.d, f.e)
			}
		}
	}
}

// Three faults, and all of them: of every setup that is none nothing else is asked.
func TestProveRefusedBySeveral(t *testing.T) {
	x := square()
	s := made(t, whole(2), whole(3), 11)
	z, d := els(wholes(2, 9, 3)), els(counting(18))
	bad := refusals(x.c)[8]
	refuseProve(t, "all", nil, bad.c, z, d, api.ErrNil)
	refuseProve(t, "all empty", nil, api.Circuit{}, nil, nil, api.ErrNil)
	refuseProve(t, "all but the setup empty", &srs.SRS{}, api.Circuit{}, nil, nil, api.ErrArg)
	refuseProve(t, "all but no setup", s, bad.c, z, d, bad.e)
	refuseProve(t, "all but the circuit", s, x.c, z, d, api.ErrArg)
	refuseProve(t, "all but the draws", s, x.c, z, els(counting(19)), api.ErrCheck)
	refuseProve(t, "the setup alone", s, x.c, els(x.z), els(counting(19)), api.ErrDegree)
	refuseProve(t, "draws and lengths of the assignment", s, x.c, z[:2], els(counting(20)), api.ErrArg)
}

// The example of the chapter.
func TestProveExample(t *testing.T) {
	x, s := square(), made(t, whole(2), whole(3), 12)
	d := els(counting(19))
	p, e := marlin.Prove(s, x.c, els(wholes(1, 9, 3)), d)
	k := keyOf(t, "x x = y", s, x.c)
	if e != api.OK || marlin.Verify(k, els(wholes(1, 9)), p) != api.OK || marlin.Verify(k, els(wholes(1, 8)), p) != api.ErrReject {
		t.Errorf("1 9 3: %v", e)
	}
	refuseProve(t, "1 8 3", s, x.c, els(wholes(1, 8, 3)), d, api.ErrCheck)
	refuseProve(t, "18 draws", s, x.c, els(wholes(1, 9, 3)), d[:18], api.ErrArg)
	refuseProve(t, "the degree 11", trimmed(t, s, 11), x.c, els(wholes(1, 9, 3)), d, api.ErrDegree)
	if n, e := marlin.Draws(cube().c); n != 27 || e != api.OK {
		t.Errorf("x x x + x + 5 = y: %d draws, %v", n, e)
	}
}

// brokenAt is a task that does not satisfy its circuit in one row alone: that row's sum of
// C is another one.
func (x task) brokenAt(row int) task {
	x = x.clone()
	for i, y := range x.c.C {
		if int(y.Row) == row {
			more := plus(numberOf(y.Val), whole(1))
			if more.Sign() == 0 {
				more = whole(1)
			}
			if x.z[y.Col].Sign() != 0 {
				x.c.C[i].Val = bytesOf(more)
				return x
			}
		}
	}
	at, is := slices.BinarySearchFunc(x.c.C, row, func(y api.Entry, row int) int { return int(y.Row) - row })
	if is && x.c.C[at].Col == 0 {
		panic("the first scalar is 1")
	}
	x.c.C = slices.Insert(x.c.C, at, entry(row, 0, whole(1)))
	return x
}

// fails tells in how many rows a task does not satisfy its circuit.
func (x task) fails() (count int) {
	rows := int(x.c.Rows)
	a, b, c := rowsOf(rows, x.c.A, x.z), rowsOf(rows, x.c.B, x.z), rowsOf(rows, x.c.C, x.z)
	for i := range rows {
		if !same(times(a[i], b[i]), c[i]) {
			count++
		}
	}
	return count
}

// What does not satisfy its circuit, in one row alone or by one scalar alone, is told
// ErrCheck, whatever the draws, and by a setup that is too small too.
func TestProveUnsatisfied(t *testing.T) {
	s := numbers{state: 50}
	long := made(t, whole(5), whole(7), 200)
	broken := 0
	for i, x := range tasks() {
		if x.fails() > 0 {
			t.Fatalf("the circuit %d", i)
		}
		for row := range int(x.c.Rows) {
			y := x.brokenAt(row)
			if y.fails() != 1 {
				t.Fatalf("the circuit %d, the row %d: %d rows", i, row, y.fails())
			}
			refuseProve(t, fmt.Sprint("the circuit ", i, ", the row ", row), long, y.c, els(y.z), els(s.draws(y.c)), api.ErrCheck)
			refuseProve(t, fmt.Sprint("the circuit ", i, ", the row ", row, ", no good setup"), &srs.SRS{}, y.c, els(y.z), els(s.draws(y.c)), api.ErrCheck)
		}
		for j := range x.z {
			y := x.clone()
			y.z[j] = plus(y.z[j], s.great())
			if y.fails() == 0 && j > 0 {
				continue // it plays no part
			}
			broken++
			refuseProve(t, fmt.Sprint("the circuit ", i, ", the scalar ", j), long, y.c, els(y.z), els(s.draws(y.c)), api.ErrCheck)
		}
	}
	if broken < 60 {
		t.Errorf("only %d by one scalar", broken)
	}
}

// A scalar that plays no part may be any one, and the proof is another one.
func TestProveOfFreeScalars(t *testing.T) {
	x := task{api.Circuit{Rows: 1, Cols: 4, Inputs: 2, A: entries([3]int64{0, 2, 1}), B: entries([3]int64{0, 2, 1}), C: entries([3]int64{0, 1, 1})}, wholes(1, 9, 3, 0)}
	s, o := made(t, whole(5), whole(7), 12), expsOf(whole(5), whole(7), 12)
	d := counting(drawsFor(x.c))
	seen := map[proof.Proof]bool{}
	for _, k := range append(wholes(0, 1, -1), number(great1)) {
		x.z[3] = k
		wantProven(t, fmt.Sprint("of ", k), s, o, x, d)
		seen[proveOf(t, fmt.Sprint("of ", k), s, x, d)] = true
	}
	if len(seen) != 4 {
		t.Errorf("%d proofs", len(seen))
	}
}

// The need decides: circuits whose need is 2 N, and 6 M, by setups of it, and of 1 less; a
// matrix of more entries than any setup can index has no proof.
func TestProveByTheNeed(t *testing.T) {
	s := numbers{state: 51}
	long := made(t, whole(5), whole(7), 260)
	for i, x := range append(tasks(), s.satisfied(sketch{60, 40, 3, 2, 1, 0}), s.satisfied(sketch{5, 6, 3, 20, 20, 20})) {
		need, d := needOf(x.c), els(s.draws(x.c))
		refuseProve(t, fmt.Sprint("the circuit ", i), trimmed(t, long, need-1), x.c, els(x.z), d, api.ErrDegree)
		if _, e := marlin.Prove(trimmed(t, long, need), x.c, els(x.z), d); e != api.OK {
			t.Errorf("the circuit %d by the need: %v", i, e)
		}
	}
	x := sketch{1000, 1000, 1, 2049, 1, 0}.even()
	most := ones(whole(3), api.MaxPower)
	refuseProve(t, "2049 entries", most, x.c, els(x.z), els(s.draws(x.c)), api.ErrDegree)
}

// By a setup of the greatest degree.
func TestProveByTheGreatestSetup(t *testing.T) {
	x, most := square(), ones(whole(3), api.MaxPower)
	o := exps{repeat(whole(1), api.MaxPower+1), repeat(whole(3), api.MaxPower+1), whole(1)}
	wantProven(t, "the greatest degree", most, o, x, counting(19))
}
