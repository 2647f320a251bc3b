package marlin

import (
	"slices"
	"testing"

	"marlinspike/api"
	"marlinspike/decide"
	"marlinspike/fr"
	"marlinspike/group"
	"marlinspike/keys"
	"marlinspike/proof"
	"marlinspike/script"
)

// What cannot be asked from without: x is of the last words of the script, and shows in no
// answer but of openings that are wrong, and hold together at it; nobody finds such ones.

// asSaid are the challenges of a script to which all is said by the chapter's words.
func asSaid(t *testing.T, k keys.Key, in []fr.El, p proof.Proof) (l []fr.El) {
	t.Helper()
	s, e := script.New("marlinspike")
	if e != api.OK {
		t.Fatal(e)
	}
	absorb := func(b []byte) {
		if e := s.Absorb(b); e != api.OK {
			t.Fatal(e)
		}
	}
	draw := func(count int) {
		for range count {
			x, e := s.Draw()
			if e != api.OK {
				t.Fatal(e)
			}
			l = append(l, x)
		}
	}
	key, e := k.Bytes()
	if e != api.OK {
		t.Fatal(e)
	}
	b := p.Bytes()
	absorb(key)
	absorb(proof.Scalars(in...))
	absorb(b[:4*48])
	draw(4) // a, which is of H just as seldom as e is
	absorb(b[4*48 : 8*48])
	draw(1)
	absorb(b[8*48 : 11*48])
	draw(1)
	absorb(b[11*48 : 11*48+18*32])
	draw(1)
	absorb(b[11*48+18*32:])
	draw(1)
	return l
}

func TestTalk(t *testing.T) {
	gen := group.Gen1()
	for n := range int64(5) {
		k := keys.Key{Z: decide.Sizes{N: 8, X: 2, M: 4}, Inputs: 2, D: 24 + int(n), Blind: gen}
		in := []fr.El{fr.Of(1), fr.Of(n)}
		p := proof.Proof{W: gen, G1s: group.Mul1(gen, fr.Of(n)), Wg: gen, V: decide.Values{S: fr.Of(n), H2: fr.Of(-1)}, Blind: fr.Of(n + 7)}
		p.Wb = group.Mul1(gen, fr.Of(n+2))
		talk := &talk{key: k, in: in, told: p}
		if e := inOrder(talk.begin, talk.first, talk.second, talk.third, talk.values, talk.last); e != api.OK {
			t.Fatal(e)
		}
		drawn := []fr.El{talk.a, talk.e[0], talk.e[1], talk.e[2], talk.b, talk.g, talk.y, talk.x}
		if wanted := asSaid(t, k, in, p); !slices.Equal(drawn, wanted) {
			t.Errorf("%d: %v, not %v", n, drawn, wanted)
		}
	}
}

// As long as nothing is wrong: behind the first error nothing is done any more.
func TestInOrder(t *testing.T) {
	var done []int
	step := func(i int, e api.Errno) func() api.Errno {
		return func() api.Errno {
			done = append(done, i)
			return e
		}
	}
	for _, c := range []struct {
		steps []func() api.Errno
		e     api.Errno
		count int
	}{
		{nil, api.OK, 0},
		{[]func() api.Errno{step(0, api.OK), step(1, api.OK), step(2, api.OK)}, api.OK, 3},
		{[]func() api.Errno{step(0, api.OK), step(1, api.ErrDraw), step(2, api.ErrLong)}, api.ErrDraw, 2},
		{[]func() api.Errno{step(0, api.ErrLong), step(1, api.OK)}, api.ErrLong, 1},
	} {
		done = nil
		if e := inOrder(c.steps...); e != c.e || !slices.Equal(done, []int{0, 1, 2}[:c.count]) {
			t.Errorf("%v, %v, not %v, %d", done, e, c.e, c.count)
		}
	}
}

// Challenges come to their places as they are drawn, up to one that is not.
func TestDrawUpToAnError(t *testing.T) {
	var l [3]fr.El
	count := int64(0)
	next := func() (fr.El, api.Errno) {
		if count++; count > 2 {
			return fr.El{}, api.ErrNil
		}
		return fr.Of(count), api.OK
	}
	talk := &talk{}
	if e := talk.draw(next, &l[0], &l[1], &l[2])(); e != api.ErrNil || l != [3]fr.El{fr.Of(1), fr.Of(2)} {
		t.Errorf("%v, %v", l, e)
	}
	count = 0
	if e := talk.draw(next, &l[2], &l[0])(); e != api.OK || l != [3]fr.El{fr.Of(2), fr.Of(2), fr.Of(1)} {
		t.Errorf("%v, %v", l, e)
	}
}

// Masks have no room behind their ends, so that nothing can be laid on the draws behind.
func TestMasksHaveNoRoom(t *testing.T) {
	p := &prover{d: []fr.El{}}
	p.shape.N = 4
	for n := range int64(19) {
		p.d = append(p.d, fr.Of(n))
	}
	for i, mask := range p.masks() {
		at := int64(11 + 2*i)
		if !slices.Equal(mask, []fr.El{fr.Of(at), fr.Of(at + 1)}) || cap(mask) != 2 {
			t.Errorf("%d: %v, with room for %d", i, mask, cap(mask))
		}
	}
}
