package marlin_test

import (
	"fmt"
	"math/big"
	"slices"
	"testing"

	"marlinspike/api"
	"marlinspike/fr"
	"marlinspike/group"
	"marlinspike/keys"
	"marlinspike/marlin"
	"marlinspike/proof"
)

// P29.2: Verify.

// someProven are proofs that are accepted, by the chapters' words: of the document's circuits,
// and of others, of one input and of several.
func someProven(t *testing.T) (l []proven) {
	t.Helper()
	s := numbers{state: 70}
	for i, x := range []task{
		square(), cube(), s.satisfied(sketch{1, 1, 1, 1, 1, 1}), s.satisfied(sketch{5, 6, 3, 0, 0, 0}), s.satisfied(sketch{6, 5, 5, 15, 16, 15}),
		s.satisfied(sketch{3, 4, 1, 5, 0, 6}), s.satisfied(sketch{33, 20, 9, 2, 1, 0}),
	} {
		d := needOf(x.c) + i%2
		l = append(l, expsOf(s.great(), s.great(), d).provenBy(t, x, s.draws(x.c)))
	}
	return l
}

func TestVerify(t *testing.T) {
	for i, w := range someProven(t) {
		wantVerdict(t, fmt.Sprint("the proof ", i), w.question(), api.OK)
		wantVerdictOfBytes(t, fmt.Sprint("the proof ", i), w.question(), api.OK)
		for way := range ways {
			if e := marlin.Verify(w.k.key(), els(w.in), other(w.p.proof(), way)); e != api.OK {
				t.Errorf("the proof %d, told by other values: %v", i, e)
			}
		}
	}
}

// badKeys are keys of a question that Check refuses, by each of its errors.
func badKeys(k keyTale) (l []keyTale) {
	change := func(do func(k *keyTale)) {
		o := k
		do(&o)
		l = append(l, o)
	}
	for _, n := range []int{0, -1, 3, k.n + 1, k.n - 1, 2*k.x - 1, k.x, 2 * api.MaxDomain, -k.n} {
		change(func(k *keyTale) { k.n = n })
	}
	for _, n := range []int{0, -1, 3, k.n, 2 * k.n, -k.x} {
		change(func(k *keyTale) { k.x = n })
	}
	for _, n := range []int{0, -1, 1, 3, k.m + 1, 2 * api.MaxDomain} {
		change(func(k *keyTale) { k.m = n })
	}
	for _, n := range []int{0, -1, k.x + 1, -k.inputs, 1 << 20} {
		change(func(k *keyTale) { k.inputs = n })
	}
	for _, n := range []int{api.MaxPower + 1, 1 << 20, max(2*k.n, 6*k.m) - 1, 0, -1, -k.d} {
		change(func(k *keyTale) { k.d = n })
	}
	change(func(k *keyTale) { k.m = 4096 })
	change(func(k *keyTale) { k.n = api.MaxDomain })
	return append(l, keyTale{blind: whole(0), tau: whole(0), c: [9]*big.Int(repeat(whole(0), 9))})
}

// A key that its Check refuses: whatever else there is, also of no inputs, and of none that
// may be.
func TestVerifyByBadKeys(t *testing.T) {
	told := map[api.Errno]int{}
	for _, w := range someProven(t)[:3] {
		for _, k := range badKeys(w.k) {
			e := k.fault()
			told[e]++
			for j, in := range [][]*big.Int{w.in, nil, wholes(2), append(wholes(2), w.in...), repeat(whole(1), max(k.inputs, 0)%1000)} {
				x := question{k, in, w.p}
				wantVerdict(t, fmt.Sprintf("%+v, the inputs %d", k, j), x, e)
				if got := marlin.Verify(k.key(), els(in), proof.Proof{}); got != e {
					t.Errorf("%+v, the inputs %d, no proof: %v, not %v", k, j, got, e)
				}
			}
		}
	}
	if e := marlin.Verify(keys.Key{}, nil, proof.Proof{}); e != api.ErrSize {
		t.Errorf("zero values: %v", e)
	}
	for _, e := range []api.Errno{api.ErrSize, api.ErrArg, api.ErrDegree} {
		if told[e] < 9 {
			t.Errorf("only %d are told %v", told[e], e)
		}
	}
	if told[api.OK] > 0 {
		t.Errorf("%d are told nothing", told[api.OK])
	}
}

// No inputs, one less, one more: ErrArg, also where the first one is not 1.
func TestVerifyOfOtherCounts(t *testing.T) {
	for i, w := range someProven(t) {
		for n := range 2*len(w.in) + 2 {
			for _, k := range []*big.Int{whole(1), whole(0), whole(2)} {
				in := slices.Concat(w.in, repeat(k, len(w.in)+2))[:n]
				if n > 0 && !same(k, whole(1)) {
					in[0] = k
				}
				wanted := api.ErrArg
				switch {
				case n != len(w.in):
				case same(k, whole(1)):
					wanted = api.OK
				default:
					wanted = api.ErrReject
				}
				wantVerdict(t, fmt.Sprintf("the proof %d, %d inputs, the first one %v", i, n, k), question{w.k, in, w.p}, wanted)
			}
		}
	}
}

// Another input at one place, the first one too.
func TestVerifyOfOtherInputs(t *testing.T) {
	s := numbers{state: 71}
	for i, w := range someProven(t) {
		for j := range w.in {
			for _, k := range []*big.Int{plus(w.in[j], whole(1)), plus(w.in[j], minus(1)), whole(0), s.great(), less(whole(0), w.in[j])} {
				if same(k, w.in[j]) {
					continue
				}
				in := slices.Clone(w.in)
				in[j] = k
				wantVerdict(t, fmt.Sprintf("the proof %d, the input %d of %v", i, j, k), question{w.k, in, w.p}, api.ErrReject)
			}
			for l := range j {
				if !same(w.in[j], w.in[l]) {
					in := slices.Clone(w.in)
					in[j], in[l] = in[l], in[j]
					wantVerdict(t, fmt.Sprintf("the proof %d, the inputs %d and %d changed", i, j, l), question{w.k, in, w.p}, api.ErrReject)
				}
			}
		}
	}
}

// parts are where a tale has its own, by the order of names.
func (p *tale) parts() (l []**big.Int) {
	for i := range p.c {
		l = append(l, &p.c[i])
	}
	for i := range p.s {
		l = append(l, &p.s[i])
	}
	return l
}

// Each part of a proof alone is another one: the negative, the far one, or 0, and others.
func TestVerifyOfOtherParts(t *testing.T) {
	s := numbers{state: 72}
	type one struct {
		what string
		question
	}
	var l []one
	for i, w := range someProven(t)[:4] {
		for j, name := range names {
			was := *w.p.parts()[j]
			for _, k := range []*big.Int{plus(was, whole(1)), plus(was, minus(1)), less(whole(0), was), whole(0), s.great()} {
				if same(k, was) {
					continue
				}
				x := w.question()
				*x.p.parts()[j] = k
				l = append(l, one{fmt.Sprintf("the proof %d, %s of %v", i, name, k), x})
			}
		}
	}
	together(len(l), func(i int) { wantVerdict(t, l[i].what, l[i].question, api.ErrReject) })
	if len(l) < 4*32*4 {
		t.Errorf("only %d", len(l))
	}
}

// Two parts have changed places.
func TestVerifyOfChangedPlaces(t *testing.T) {
	type one struct {
		what string
		question
	}
	var l []one
	for i, w := range someProven(t)[:2] {
		for j := range names {
			for m := range j {
				x := w.question()
				p, o := x.p.parts()[j], x.p.parts()[m]
				if (j < 13) != (m < 13) || same(*p, *o) {
					continue
				}
				*p, *o = *o, *p
				l = append(l, one{fmt.Sprintf("the proof %d, %s and %s changed", i, names[j], names[m]), x})
			}
		}
	}
	together(len(l), func(i int) { wantVerdict(t, l[i].what, l[i].question, api.ErrReject) })
	if len(l) < 400 {
		t.Errorf("only %d", len(l))
	}
}

// The zero value of a proof, and proofs of far points, or of 0s alone.
func TestVerifyOfNothing(t *testing.T) {
	for i, w := range someProven(t) {
		k, in := w.k.key(), els(w.in)
		if e := marlin.Verify(k, in, proof.Proof{}); e != api.ErrReject {
			t.Errorf("the zero value, by the key %d: %v", i, e)
		}
		far, zeros := w.p.proof(), w.p.proof()
		for _, p := range pointsOf(&far) {
			*p = group.G1{}
		}
		for _, x := range scalarsOf(&zeros) {
			*x = fr.El{}
		}
		for j, p := range []proof.Proof{far, zeros} {
			if e := marlin.Verify(k, in, p); e != api.ErrReject {
				t.Errorf("%d, by the key %d: %v", j, i, e)
			}
		}
	}
}

// A proof of another circuit, of another assignment's inputs, or by another setup.
func TestVerifyOfOtherProofs(t *testing.T) {
	s := numbers{state: 73}
	d := s.draws(cube().c)
	other := cube()
	other.z = wholes(1, 15, 2, 4, 8)
	same := cube()
	same.c.C[2], same.c.C[3] = entry(2, 0, whole(-10)), entry(2, 1, whole(2))
	same.c.B[2] = entry(2, 0, whole(2)) // x x x + x, times 2, that is 2 y - 10
	var l []proven
	for _, x := range []task{cube(), other, same} {
		for _, o := range []exps{expsOf(whole(5), whole(7), 24), expsOf(whole(6), whole(7), 24), expsOf(whole(5), whole(8), 24), expsOf(whole(5), whole(7), 25)} {
			l = append(l, o.provenBy(t, x, d))
		}
	}
	for i, w := range l {
		for j, o := range l {
			wanted := api.ErrReject
			if i == j || slices.Equal(w.k.text(), o.k.text()) && slices.Equal(textOfScalars(w.in...), textOfScalars(o.in...)) {
				wanted = api.OK
			}
			if wanted == api.OK && i != j {
				t.Fatal("two that are the same")
			}
			wantVerdict(t, fmt.Sprintf("the proof %d by the key and the inputs of %d", i, j), question{o.k, o.in, w.p}, wanted)
		}
	}
}

// A key of which one number is another one, that may still be, or one point.
func TestVerifyByOtherKeys(t *testing.T) {
	for i, w := range someProven(t) {
		for j := range w.k.numbers() {
			for _, n := range []int{1, 2, 4, 8, 16, 32, 64, 128, w.k.d - 1, w.k.d + 1, w.k.d + 2, w.k.d + 256, api.MaxPower} {
				x := w.question()
				at := x.k.numbers()[j]
				if *at == n {
					continue
				}
				*at = n
				wanted := x.k.fault()
				if wanted == api.OK {
					wanted = api.ErrReject
					if x.k.inputs != w.k.inputs {
						wanted = api.ErrArg
					}
				}
				wantVerdict(t, fmt.Sprintf("the proof %d, the number %d of %d", i, j, n), x, wanted)
			}
		}
		for j := range 11 {
			for _, k := range append(wholes(0, 1), number(great1)) {
				x := w.question()
				at := []**big.Int{&x.k.blind, &x.k.tau}
				for c := range x.k.c {
					at = append(at, &x.k.c[c])
				}
				if same(k, *at[j]) {
					continue
				}
				*at[j] = k
				wantVerdict(t, fmt.Sprintf("the proof %d, the point %d of %v", i, j, k), x, api.ErrReject)
			}
		}
	}
}

// A key's points may be told by other values.
func TestVerifyByKeysOfOtherValues(t *testing.T) {
	for i, w := range someProven(t) {
		for way := range ways {
			k := w.k.key()
			k.Blind = several(group.Curve1(), gen1, k.Blind)[way]
			k.Tau = several(group.Curve2(), gen2, k.Tau)[(way+1)%ways]
			for j, p := range commitmentsOf(&k) {
				*p = several(group.Curve1(), gen1, *p)[(way+j)%ways]
			}
			if e := marlin.Verify(k, els(w.in), w.p.proof()); e != api.OK {
				t.Errorf("the proof %d, the way %d: %v", i, way, e)
			}
		}
	}
}
