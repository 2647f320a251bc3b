package marlin_test

import (
	"bytes"
	"fmt"
	"math"
	"math/big"
	"runtime"
	"slices"
	"sync"
	"testing"

	"marlinspike/api"
	"marlinspike/decide"
	"marlinspike/fq"
	"marlinspike/fq2"
	"marlinspike/fr"
	"marlinspike/group"
	"marlinspike/keys"
	"marlinspike/marlin"
	"marlinspike/proof"
	"marlinspike/srs"
)

// R1 to R8 for this layer's calls.

// strange are points that no call told, or that are not of the groups.
func strange() (l []group.G1, m []group.G2) {
	ns, ms := []fq.El{{}, fq.Of(1), fq.Of(-1), fq.Of(7)}, []fq2.El{{}, fq2.Of(1, 0), fq2.Of(0, -1), fq2.Of(7, 3)}
	for i := range 64 {
		l = append(l, group.G1{X: ns[i%4], Y: ns[i/4%4], Z: ns[i/16]})
		m = append(m, group.G2{X: ms[i%4], Y: ms[i/4%4], Z: ms[i/16]})
	}
	p, e := group.Curve1().Of(fq.Of(2), fq.Of(3))
	if e != api.OK {
		panic(e)
	}
	return append(l, p, group.Curve1().Add(gen1, p)), append(m, gen2)
}

// R1: whatever setups, circuits, assignments and draws there are.
func TestProveDoesNotPanic(t *testing.T) {
	ps, qs := strange()
	setups := []*srs.SRS{nil, {}, made(t, whole(2), whole(3), 12), {Powers: ps[:1]}, {Blinds: ps[:1]}, {Powers: make([]group.G1, 1<<17), Blinds: make([]group.G1, 1<<17)}}
	for _, n := range []int{1, 2, 12, 13, 14, 25, 30, 60} {
		setups = append(setups, &srs.SRS{Powers: ps[:n], Blinds: ps[6 : 6+n], Tau: qs[n]}, &srs.SRS{Powers: ps[:n], Blinds: ps[5 : n+4]}, &srs.SRS{Powers: ps[len(ps)-n:], Blinds: ps[3 : 3+n], Tau: qs[64-n]})
	}
	together(len(setups), func(i int) {
		s := numbers{state: uint64(1400 + i)}
		for _, x := range []task{square(), cube(), s.satisfied(sketch{2, 2, 1, 2, 1, 3})} {
			marlin.Prove(setups[i], x.c, els(x.z), els(s.draws(x.c)))
			x.c.Inputs = uint32(s.below(4))
			marlin.Prove(setups[i], x.c, els(x.z), els(s.draws(square().c)))
			for _, l := range [][]fr.El{nil, {}, make([]fr.El, 1), make([]fr.El, 19), make([]fr.El, 1<<16)} {
				marlin.Prove(setups[i], x.c, l, els(s.draws(cube().c)))
				marlin.Prove(setups[i], x.c, els(x.z), l)
				marlin.Prove(setups[i], x.c, l, l)
			}
		}
		for range 300 {
			var c api.Circuit
			edges := []uint32{0, 1, 2, 3, 4, 1024, 1025, 1 << 31, math.MaxUint32}
			pick := func() uint32 { return edges[s.below(len(edges))] }
			c.Rows, c.Cols, c.Inputs = pick(), pick(), pick()
			for _, m := range matrices(&c) {
				for range s.below(4) {
					*m = append(*m, api.Entry{Row: pick() % 4, Col: pick() % 3, Val: api.Scalar(s.text(32))})
				}
			}
			marlin.Draws(c)
			marlin.Prove(setups[i], c, els(wholes(1, 2, 3)), els(counting(19)))
		}
	})
}

// R1: whatever keys, inputs and proofs there are. Values of 0 alone make both equations hold,
// so that the points are looked at.
func TestVerifyDoesNotPanic(t *testing.T) {
	ps, qs := strange()
	edges := []int{math.MinInt, math.MinInt + 1, -1, 0, 1, 2, 3, 4, 8, 12, 13, 1024, 8192, 16384, 16385, 1 << 16, 1 << 17, 1 << 32, math.MaxInt}
	together(runtime.NumCPU(), func(i int) {
		s := numbers{state: uint64(1500 + i)}
		for j := range 25 {
			var p proof.Proof
			for _, at := range pointsOf(&p) {
				*at = ps[s.below(len(ps))]
			}
			k := keys.Key{Z: decide.Sizes{N: 4, X: 2, M: 2}, Inputs: 1 + j%2, D: 12, Blind: ps[s.below(len(ps))], Tau: qs[s.below(len(qs))]}
			for _, at := range commitmentsOf(&k) {
				*at = ps[s.below(len(ps))]
			}
			if e := marlin.Verify(k, els(wholes(1, 5)[:k.Inputs]), p); e != api.OK && e != api.ErrReject {
				t.Errorf("of strange points: %v", e)
			}
			pick := func() int { return edges[s.below(len(edges))] }
			k.Z, k.Inputs, k.D = decide.Sizes{N: pick(), X: pick(), M: pick()}, pick(), pick()
			marlin.Verify(k, els(s.list(s.below(4))), p)
			for _, at := range scalarsOf(&p) {
				*at = el(s.list(1)[0])
			}
			marlin.Verify(k, nil, p)
			marlin.Verify(k, els(repeat(whole(1), 8)), p)
		}
		marlin.Verify(keys.Key{}, nil, proof.Proof{})
		marlin.Verify(keys.Key{}, els(wholes(1)), proof.Proof{})
	})
}

// R1: whatever bytes there are: of all lengths, any ones, and right ones with some spoilt.
func TestNoBytesPanic(t *testing.T) {
	all := calls(t, square())
	together(467, func(n int) {
		n *= 3
		s := numbers{state: uint64(n)}
		for _, c := range all {
			lists := make([][]byte, len(c.kinds))
			for i := range lists {
				lists[i] = make([]byte, n)
			}
			c.ask(lists)
			for i := range lists {
				lists[i] = s.text(n)
			}
			c.ask(lists)
			if n%105 > 0 {
				continue // to read what is right takes long
			}
			for i := range lists {
				c.ask(c.with(i, lists[i]))
				spoilt := slices.Clone(c.lists[i])
				for range 1 + s.below(3) {
					spoilt[s.below(len(spoilt))] = byte(s.word())
				}
				if b, e := c.ask(c.with(i, spoilt)); e != api.OK && b != nil {
					t.Errorf("%s: %x beside %v", c.name, b, e)
				}
			}
		}
	})
	for _, c := range all {
		for i := range c.kinds {
			for n := 0; n < 256; n += 15 {
				c.ask(c.with(i, bytes.Repeat([]byte{byte(n)}, len(c.lists[i]))))
			}
			c.ask(c.with(i, make([]byte, 1<<20)))
		}
	}
}

// A refused call leaves nothing behind: asked again, the right ones tell the same; and no
// room.
func TestRefusedLeavesNothing(t *testing.T) {
	all := calls(t, square())
	s := made(t, whole(2), whole(3), 12)
	l := faults(square(), s)
	var before, after runtime.MemStats
	runtime.GC()
	runtime.ReadMemStats(&before)
	for range 3 {
		for _, c := range all {
			for i, kind := range c.kinds {
				for _, w := range wrongs(kind, c.lists[i])[:6] {
					c.refuse(t, w.what, c.with(i, w.text), w.e)
				}
			}
		}
		for _, f := range l {
			q := asked{s, square().c, els(square().z), els(counting(19))}
			f.do(&q)
			refuseProve(t, f.what, q.s, q.c, q.z, q.d, f.e)
		}
	}
	runtime.GC()
	runtime.ReadMemStats(&after)
	if after.HeapAlloc > before.HeapAlloc+1<<20 {
		t.Errorf("%d bytes are left", after.HeapAlloc-before.HeapAlloc)
	}
	for _, c := range all {
		c.want(t, "behind refused ones")
	}
}

// answers are what all calls tell of a task, as texts.
func answers(t *testing.T, x task) (l []string) {
	t.Helper()
	add := func(what ...any) { l = append(l, fmt.Sprint(what...)) }
	s, d := made(t, whole(5), whole(7), needOf(x.c)+1), els(counting(drawsFor(x.c)))
	add(marlin.Draws(x.c))
	p, e := marlin.Prove(s, x.c, els(x.z), d)
	add(p, e)
	k := keyOf(t, "again", s, x.c)
	in := els(x.z[:x.c.Inputs])
	add(marlin.Verify(k, in, p), marlin.Verify(k, in[1:], p), marlin.Verify(k, in, proof.Proof{}))
	for _, f := range faults(x, trimmed(t, s, needOf(x.c))) {
		q := asked{s, x.c, els(x.z), d}
		f.do(&q)
		add(marlin.Prove(q.s, q.c, q.z, q.d))
	}
	for _, c := range calls(t, x) {
		b, e := c.ask(c.lists)
		add(b, e)
		for i, kind := range c.kinds {
			for _, w := range oneByEach(wrongs(kind, c.lists[i])) {
				b, e := c.ask(c.with(i, w.text))
				add(b, e)
			}
		}
	}
	return l
}

// R2
func TestAnswersHangOnArgumentsAlone(t *testing.T) {
	first, second := answers(t, square()), answers(t, cube())
	marlin.Prove(nil, api.Circuit{}, nil, nil)
	marlin.Verify(keys.Key{}, nil, proof.Proof{})
	marlin.VerifyBytes(nil, []byte{1}, nil)
	if !slices.Equal(answers(t, square()), first) || !slices.Equal(answers(t, cube()), second) {
		t.Error("asked again, it is another one")
	}
}

// What may be asked may be asked by many at once, of the same lists.
func TestManyAtOnce(t *testing.T) {
	wanted := answers(t, square())
	x, s := cube(), made(t, whole(5), whole(7), 24)
	z, d := els(x.z), els(counting(27))
	first := proveOf(t, "first", s, x, counting(27))
	k := keyOf(t, "first", s, x.c)
	in := els(x.z[:2])
	all := calls(t, cube())
	var workers sync.WaitGroup
	for range 4 {
		workers.Go(func() {
			if !slices.Equal(answers(t, square()), wanted) {
				t.Error("at once, it is another one")
			}
			p, e := marlin.Prove(s, x.c, z, d)
			if e != api.OK || p != first || marlin.Verify(k, in, p) != api.OK {
				t.Errorf("at once: %v", e)
			}
			for _, c := range all {
				c.want(t, "at once")
			}
		})
	}
	workers.Wait()
}

// roomy is a list with room behind its end that is filled.
func roomy[T any](l []T, filled T) []T {
	return slices.Concat(l, slices.Repeat([]T{filled}, 40))[:len(l)]
}

// whole room of a list.
func all[T any](l []T) []T { return l[:cap(l)] }

// R3: what is handed to Prove and Verify is not changed, nor is the room behind it; and what
// is written to it later does not show.
func TestListsAreNotChangedOrKept(t *testing.T) {
	for i, x := range []task{square(), cube()} {
		for _, satisfied := range []bool{true, false} {
			if !satisfied {
				x.z[len(x.z)-1] = whole(5)
			}
			fresh := func() asked {
				s := made(t, whole(5), whole(7), needOf(x.c)+2)
				s.Powers, s.Blinds = roomy(s.Powers, gen1), roomy(s.Blinds, gen1)
				c := x.clone().c
				for _, m := range matrices(&c) {
					*m = roomy(*m, entry(9, 9, whole(9)))
				}
				return asked{s, c, roomy(els(x.z), fr.Of(9)), roomy(els(counting(drawsFor(x.c))), fr.Of(8))}
			}
			same := func(q, o asked) bool {
				is := slices.Equal(all(q.s.Powers), all(o.s.Powers)) && slices.Equal(all(q.s.Blinds), all(o.s.Blinds)) && q.s.Tau == o.s.Tau
				for i, m := range matrices(&q.c) {
					is = is && slices.Equal(all(*m), all(*matrices(&o.c)[i]))
				}
				return is && slices.Equal(all(q.z), all(o.z)) && slices.Equal(all(q.d), all(o.d))
			}
			q, o := fresh(), fresh()
			p, e := marlin.Prove(q.s, q.c, q.z, q.d)
			n, wrong := marlin.Draws(q.c)
			if !same(q, o) || wrong != api.OK || n != len(q.d) || (e == api.OK) != satisfied {
				t.Errorf("the circuit %d: something was changed: %v", i, e)
			}
			if !satisfied {
				continue
			}
			b, k := p.Bytes(), keyOf(t, "the key", o.s, o.c)
			in := roomy(els(x.z[:2]), fr.Of(7))
			if e := marlin.Verify(k, in, p); e != api.OK || !slices.Equal(all(in), all(roomy(els(x.z[:2]), fr.Of(7)))) {
				t.Errorf("the circuit %d: the inputs were changed, or %v", i, e)
			}
			overwrite(q.s.Powers, group.G1{})
			overwrite(q.s.Blinds, group.G1{})
			overwrite(q.z, fr.Of(77))
			overwrite(q.d, fr.Of(77))
			overwrite(in, fr.Of(77))
			for _, m := range matrices(&q.c) {
				overwrite(*m, api.Entry{})
			}
			if !bytes.Equal(p.Bytes(), b) || marlin.Verify(k, els(x.z[:2]), p) != api.OK {
				t.Errorf("the circuit %d: what was written to the lists shows in the proof", i)
			}
		}
	}
}

// overwrite writes to all of a list, with the room behind it.
func overwrite[T any](l []T, x T) {
	for i := range all(l) {
		all(l)[i] = x
	}
}

// R3: bytes are not changed, and what is answered is one's own to write to, spare room too.
func TestBytesAreNotChangedOrKept(t *testing.T) {
	for _, c := range calls(t, square()) {
		right := slices.Clone(c.lists)
		for _, filled := range []byte{0, 128, 255} {
			lists := make([][]byte, len(right))
			for i, b := range right {
				lists[i] = roomy(b, filled)
			}
			first, e := c.ask(lists)
			second, again := c.ask(lists)
			for i, b := range lists {
				if !bytes.Equal(all(b), all(roomy(right[i], filled))) {
					t.Errorf("%s: the list %d was changed", c.name, i)
				}
				overwrite(b, 9)
			}
			if e != api.OK || again != api.OK || !bytes.Equal(first, c.answer) {
				t.Errorf("%s: %v, %v; what was written to the lists shows", c.name, e, again)
			}
			overwrite(first, 7)
			if !bytes.Equal(second, c.answer) {
				t.Errorf("%s: two answers share room", c.name)
			}
		}
		c.want(t, "behind what was written to its answers")
		for i, kind := range c.kinds {
			for _, w := range oneByEach(wrongs(kind, c.lists[i])) {
				bad := roomy(w.text, 3)
				c.refuse(t, w.what, c.with(i, bad), w.e)
				if !bytes.Equal(all(bad), all(roomy(w.text, 3))) {
					t.Errorf("%s: the list %d, %s, was changed", c.name, i, w.what)
				}
			}
		}
	}
}

// What is written to a setup, a key or a proof counts.
func TestWhatIsWrittenCounts(t *testing.T) {
	x, o := square(), expsOf(whole(5), whole(7), 12)
	s, d := made(t, whole(5), whole(7), 12), counting(19)
	wantProven(t, "as it was", s, o, x, d)
	s.Powers[2], o.powers[2] = gen1, whole(1)
	wantProven(t, "another power", s, o, x, d)
	s.Blinds[1], o.blinds[1] = gen1, whole(1)
	wantProven(t, "another blind", s, o, x, d)
	s.Tau, o.tau = gen2, whole(1)
	wantProven(t, "another Tau", s, o, x, d)
	s = made(t, whole(5), whole(7), 12)
	k, p := keyOf(t, "the key", s, x.c), proveOf(t, "the proof", s, x, d)
	for i, change := range []func(k *keys.Key, in []fr.El, p *proof.Proof){
		func(k *keys.Key, in []fr.El, p *proof.Proof) { k.D = 13 }, func(k *keys.Key, in []fr.El, p *proof.Proof) { k.Row[1] = group.G1{} },
		func(k *keys.Key, in []fr.El, p *proof.Proof) { in[1] = fr.Of(8) }, func(k *keys.Key, in []fr.El, p *proof.Proof) { p.Blind = fr.El{} },
	} {
		k, in, p := k, els(wholes(1, 9)), p
		if e := marlin.Verify(k, in, p); e != api.OK {
			t.Errorf("as it was: %v", e)
		}
		change(&k, in, &p)
		if e := marlin.Verify(k, in, p); e != api.ErrReject {
			t.Errorf("the change %d: %v", i, e)
		}
	}
}

// R6
func TestEmptyListsMayBeNil(t *testing.T) {
	x, y := sketch{5, 6, 3, 0, 0, 0}.even(), sketch{5, 6, 3, 0, 0, 0}.even()
	x.c.A, x.c.B, x.c.C = nil, nil, nil
	y.c.A, y.c.B, y.c.C = []api.Entry{}, make([]api.Entry, 0, 9), []api.Entry{}
	s, d := made(t, whole(5), whole(7), 16), counting(27)
	if p, o := proveOf(t, "nil", s, x, d), proveOf(t, "empty", s, y, d); p != o {
		t.Error("nil and empty matrices are not the same")
	}
	for _, l := range [][]fr.El{nil, {}, make([]fr.El, 0, 9)} {
		refuseProve(t, "no assignment", s, x.c, l, els(d), api.ErrArg)
		refuseProve(t, "no draws", s, x.c, els(x.z), l, api.ErrArg)
		if e := marlin.Verify(keyOf(t, "the key", s, x.c), l, proof.Proof{}); e != api.ErrArg {
			t.Errorf("no inputs: %v", e)
		}
	}
}

// R7: the powers by which shifted values go are exact, at the least and the greatest domains
// and degrees; so are the numbers of draws.
func TestNumbersAreExact(t *testing.T) {
	s := numbers{state: 160}
	for i, f := range [][5]int{{2, 1, 2, 1, api.MaxPower}, {8192, 4096, 2, 1, api.MaxPower}, {2, 1, 2048, 1, 12288}, {8192, 4096, 2048, 4096, api.MaxPower}} {
		k := keyTale{n: f[0], x: f[1], m: f[2], inputs: f[3], d: f[4], blind: s.big(), tau: s.big(), c: [9]*big.Int(s.list(9))}
		in := append(wholes(1), repeat(whole(0), k.inputs-1)...)
		in[k.inputs-1] = plus(in[k.inputs-1], whole(0))
		x := forger{&s, question{k: k, in: in}, 0}.forged(atH1, atH2)
		wantVerdict(t, fmt.Sprint("the numbers ", i), x, api.OK)
		wantVerdictOfBytes(t, fmt.Sprint("the numbers ", i), x, api.OK)
	}
}
