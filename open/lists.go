package open

import (
	"marlinspike/api"
	"marlinspike/commit"
	"marlinspike/fr"
	"marlinspike/group"
	"marlinspike/srs"
)

// wrong is the error of a commitment to polynomials. To make one takes long, so it is not
// made: what is wrong with a setup, the commitment to nothing tells.
func wrong(s *srs.SRS, polynomials ...[]fr.El) api.Errno {
	if _, e := commit.Commit(s, nil, nil); e != api.OK {
		return e
	}
	for _, p := range polynomials {
		if degree(p) > s.Degree() {
			return api.ErrDegree
		}
	}
	return api.OK
}

// degree is a polynomial's; of 0, that fits everywhere, it is -1.
func degree(p []fr.El) int {
	n := len(p) - 1
	for n >= 0 && p[n].IsZero() {
		n--
	}
	return n
}

// sum is points together.
func sum(ps ...group.G1) (all group.G1) {
	c := group.Curve1()
	for _, p := range ps {
		all = c.Add(all, p)
	}
	return all
}
