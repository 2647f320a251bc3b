package marlin

import (
	"slices"

	"marlinspike/api"
	"marlinspike/batch"
	"marlinspike/commit"
	"marlinspike/fr"
	"marlinspike/group"
	"marlinspike/keys"
	"marlinspike/open"
	"marlinspike/proof"
	"marlinspike/script"
)

// label is what each proof's script has.
const label = "marlinspike"

// talk is a proof's script, what is said in it, and what was drawn from it. Each step says
// those parts of the proof that come next: a prover has just made them, a verifier has all
// of them from the start.
type talk struct {
	key           keys.Key
	in            []fr.El
	told          proof.Proof
	script        *script.Script
	a, b, g, y, x fr.El
	e             [3]fr.El
}

// absorb is the step that says bytes, at once.
func (t *talk) absorb(parts ...[]byte) func() api.Errno {
	return func() api.Errno { return t.script.Absorb(parts...) }
}

// draw is the step that draws challenges, each to its place.
func (t *talk) draw(next func() (fr.El, api.Errno), to ...*fr.El) func() api.Errno {
	return func() (e api.Errno) {
		for _, at := range to {
			if *at, e = next(); e != api.OK {
				return e
			}
		}
		return api.OK
	}
}

// outside is a challenge that is not of H.
func (t *talk) outside() (fr.El, api.Errno) { return t.script.Outside(t.key.Z.N) }

// begin says what is known ahead of the proof.
func (t *talk) begin() (e api.Errno) {
	if t.script, e = script.New(label); e != api.OK {
		return e
	}
	key, e := t.key.Bytes()
	if e != api.OK {
		return e
	}
	return inOrder(t.absorb(key), t.absorb(proof.Scalars(t.in...)))
}

// first goes on behind the first round, second behind the second one, third behind the
// third one.
func (t *talk) first() api.Errno {
	p := t.told
	return inOrder(
		t.absorb(proof.Points(p.W, p.A, p.B, p.S)),
		t.draw(t.outside, &t.a),
		t.draw(t.script.Draw, &t.e[0], &t.e[1], &t.e[2]),
	)
}

func (t *talk) second() api.Errno {
	p := t.told
	return inOrder(t.absorb(proof.Points(p.T, p.G1, p.G1s, p.H1)), t.draw(t.outside, &t.b))
}

func (t *talk) third() api.Errno {
	p := t.told
	return inOrder(t.absorb(proof.Points(p.G2, p.G2s, p.H2)), t.draw(t.script.Draw, &t.g))
}

// values goes on behind the values.
func (t *talk) values() api.Errno {
	l := proof.Values(t.told.V)
	return inOrder(t.absorb(proof.Scalars(l...)), t.draw(t.script.Draw, &t.y))
}

// last goes on behind all of the proof.
func (t *talk) last() api.Errno {
	p := t.told
	return inOrder(t.absorb(proof.Scalars(p.Blind), proof.Points(p.Wb, p.Wg)), t.draw(t.script.Draw, &t.x))
}

// shift is how far a polynomial is shifted whose bound is a domain's size less 2.
func (t *talk) shift(size int) int { return t.key.D - (size - 2) }

// shifted is what such a one, worth v at z, is worth there when it is shifted.
func (t *talk) shifted(v, z fr.El, size int) fr.El {
	return z.Pow([]uint64{uint64(t.shift(size))}).Mul(v)
}

// claimB is the claim at b, claimG that at g.
func (t *talk) claimB() batch.Claim {
	p, v := t.told, t.told.V
	points := []group.G1{p.W, p.A, p.B, p.S, p.T, p.G1, p.G1s, p.H1}
	worths := []fr.El{v.W, v.A, v.B, v.S, v.T, v.G1, t.shifted(v.G1, t.b, t.key.Z.N), v.H1}
	return t.claim(t.b, points, worths, p.Blind, p.Wb)
}

func (t *talk) claimG() batch.Claim {
	p, v, k := t.told, t.told.V, t.key
	points := slices.Concat(k.Row[:], k.Col[:], k.Val[:], []group.G1{p.G2, p.G2s, p.H2})
	third := []fr.El{v.G2, t.shifted(v.G2, t.g, k.Z.M), v.H2}
	worths := slices.Concat(v.Row[:], v.Col[:], v.Val[:], third)
	return t.claim(t.g, points, worths, fr.El{}, p.Wg)
}

// claim is one at z, joined by y.
func (t *talk) claim(z fr.El, points []group.G1, worths []fr.El, blind fr.El, w group.G1) batch.Claim {
	o := open.Opening{V: commit.FoldEl(worths, t.y), B: blind, W: w}
	return batch.Claim{C: commit.Fold(points, t.y), Z: z, O: o}
}

// claims asks whether both hold together.
func (t *talk) claims() api.Errno {
	both := []batch.Claim{t.claimB(), t.claimG()}
	return holds(batch.Check(t.key.Setup(), both, t.x))
}
