package update

import (
	"marlinspike/fr"
	"marlinspike/group"
	"marlinspike/pairing"
	"marlinspike/srs"
)

// powers tells a scalar's powers, from that by 0 on, at each call the next one.
func powers(d fr.El) func() fr.El {
	next := fr.Of(1)
	return func() fr.El {
		power := next
		next = next.Mul(d)
		return power
	}
}

// raise are points, the i-th one d^i times.
func raise(ps []group.G1, d fr.El) []group.G1 {
	raised := make([]group.G1, len(ps))
	power := powers(d)
	for i, p := range ps {
		raised[i] = group.Mul1(p, power())
	}
	return raised
}

// even tells whether a setup's lists have one length, and a point behind the first.
func even(s *srs.SRS) bool { return len(s.Powers) == len(s.Blinds) && len(s.Powers) > 1 }

// alike tells whether two setups have one degree and one first blind.
func alike(s, o *srs.SRS) bool {
	return s.Degree() == o.Degree() && group.Curve1().Same(s.Blinds[0], o.Blinds[0])
}

// all asks one question behind the other, up to one whose answer is no.
func all(asks ...func() bool) bool {
	for _, ask := range asks {
		if !ask() {
			return false
		}
	}
	return true
}

// lead tells whether steps lead from a point to another one. The pairing alone may tell
// of a point that is not of its group what it tells of one that is.
func lead(p, to group.G1, steps []Step) bool {
	c, gen := group.Curve1(), group.Gen2()
	for _, s := range steps {
		if !group.In1(s.A) || !group.In2(s.D) || group.Curve2().Same(s.D, group.G2{}) {
			return false
		}
		is, _ := pairing.IsOne([]group.G1{s.A, c.Neg(p)}, []group.G2{gen, s.D})
		if !is {
			return false
		}
		p = s.A
	}
	return c.Same(p, to)
}

// inGroups tells whether a setup's points are of the groups; Good takes it that they are.
func inGroups(s *srs.SRS) bool {
	for _, l := range [][]group.G1{s.Powers, s.Blinds} {
		for _, p := range l {
			if !group.In1(p) {
				return false
			}
		}
	}
	return group.In2(s.Tau)
}
