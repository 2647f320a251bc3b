package marlin

import (
	"slices"

	"marlinspike/api"
	"marlinspike/commit"
	"marlinspike/decide"
	"marlinspike/fr"
	"marlinspike/group"
	"marlinspike/index"
	"marlinspike/keys"
	"marlinspike/open"
	"marlinspike/pad"
	"marlinspike/poly"
	"marlinspike/rounds"
	"marlinspike/srs"
)

// masked are how many commitments are blinded, each by two draws of its own.
const masked = 4

// drawsOf is how many draws a proof of a shape takes.
func drawsOf(s pad.Shape) int { return rounds.Draws(s) + 2*masked }

// prover makes a proof part by part, and says each part before it goes on.
type prover struct {
	talk
	setup    *srs.SRS
	shape    pad.Shape
	matrices index.Index
	z, d     []fr.El
	one      rounds.First
	two      rounds.Second
	three    rounds.Third
}

// makeKey makes the key of the matrices.
func (p *prover) makeKey() (e api.Errno) {
	p.key, e = keys.Make(p.setup, p.matrices, p.shape.Inputs)
	return e
}

// start begins to talk. The assignment, which satisfies the circuit, begins with the inputs.
func (p *prover) start() api.Errno {
	p.in = p.z[:p.shape.Inputs]
	return p.begin()
}

// masks are the blinding polynomials of W, A, B and S: the draws behind the rounds'.
func (p *prover) masks() (l [masked][]fr.El) {
	for i := range l {
		at := rounds.Draws(p.shape) + 2*i
		l[i] = p.d[at : at+2 : at+2]
	}
	return l
}

// commit is the step that makes a commitment.
func (p *prover) commit(to *group.G1, polynomial, mask []fr.El) func() api.Errno {
	return func() (e api.Errno) {
		*to, e = commit.Commit(p.setup, polynomial, mask)
		return e
	}
}

// commitShifted is the step that makes a shifted one, by the bound of a domain's size
// less 2.
func (p *prover) commitShifted(to *group.G1, polynomial []fr.El, size int) func() api.Errno {
	return func() (e api.Errno) {
		*to, e = commit.Shifted(p.setup, polynomial, size-2)
		return e
	}
}

// roundOne makes the first round and its commitments, roundTwo those of the second one,
// roundThree those of the third one.
func (p *prover) roundOne() api.Errno {
	z, e := p.shape.Spread(p.z)
	if e != api.OK {
		return e
	}
	if p.one, e = rounds.One(p.shape, z, p.d[:rounds.Draws(p.shape)]); e != api.OK {
		return e
	}
	masks := p.masks()
	return inOrder(
		p.commit(&p.told.W, p.one.W, masks[0]),
		p.commit(&p.told.A, p.one.A, masks[1]),
		p.commit(&p.told.B, p.one.B, masks[2]),
		p.commit(&p.told.S, p.one.S, masks[3]),
	)
}

func (p *prover) roundTwo() (e api.Errno) {
	if p.two, e = rounds.Two(p.matrices, p.one, p.a, p.e); e != api.OK {
		return e
	}
	return inOrder(
		p.commit(&p.told.T, p.two.T, nil),
		p.commit(&p.told.G1, p.two.G, nil),
		p.commitShifted(&p.told.G1s, p.two.G, p.shape.N),
		p.commit(&p.told.H1, p.two.H, nil),
	)
}

func (p *prover) roundThree() (e api.Errno) {
	if p.three, e = rounds.Three(p.matrices, p.a, p.e, p.b); e != api.OK {
		return e
	}
	return inOrder(
		p.commit(&p.told.G2, p.three.G, nil),
		p.commitShifted(&p.told.G2s, p.three.G, p.shape.M),
		p.commit(&p.told.H2, p.three.H, nil),
	)
}

// evaluate makes the values.
func (p *prover) evaluate() api.Errno {
	at := func(z fr.El) func(polynomial []fr.El) fr.El {
		return func(polynomial []fr.El) fr.El { return poly.Eval(polynomial, z) }
	}
	b, g := at(p.b), at(p.g)
	v := decide.Values{
		W: b(p.one.W), A: b(p.one.A), B: b(p.one.B), S: b(p.one.S),
		T: b(p.two.T), G1: b(p.two.G), H1: b(p.two.H),
		G2: g(p.three.G), H2: g(p.three.H),
	}
	for i := range 3 {
		v.Row[i], v.Col[i], v.Val[i] = g(p.matrices.Row[i]), g(p.matrices.Col[i]), g(p.matrices.Val[i])
	}
	p.told.V = v
	return api.OK
}

// openB makes Blind and Wb, openG Wg.
func (p *prover) openB() api.Errno {
	shifted, e := poly.Shift(p.two.G, p.shift(p.shape.N))
	if e != api.OK {
		return e
	}
	polynomials := [][]fr.El{p.one.W, p.one.A, p.one.B, p.one.S, p.two.T, p.two.G, shifted, p.two.H}
	masks := p.masks()
	o, e := open.Open(p.setup, commit.FoldPoly(polynomials, p.y), commit.FoldPoly(masks[:], p.y), p.b)
	p.told.Blind, p.told.Wb = o.B, o.W
	return e
}

func (p *prover) openG() api.Errno {
	shifted, e := poly.Shift(p.three.G, p.shift(p.shape.M))
	if e != api.OK {
		return e
	}
	third := [][]fr.El{p.three.G, shifted, p.three.H}
	polynomials := slices.Concat(p.matrices.Row[:], p.matrices.Col[:], p.matrices.Val[:], third)
	o, e := open.Open(p.setup, commit.FoldPoly(polynomials, p.y), nil, p.g)
	p.told.Wg = o.W
	return e
}
