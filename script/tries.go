package script

import (
	"iter"

	"marlinspike/api"
	"marlinspike/fr"
)

// tries are what a challenge may be, without an end: some five of twelve are not below
// r, and nobody can tell how many of these come first.
func (s *Script) tries() iter.Seq2[fr.El, api.Errno] {
	return func(yield func(fr.El, api.Errno) bool) {
		for i := 0; yield(s.try(i)); i++ {
		}
	}
}

// try is one of the tries. A sum has three bits more than r.
func (s *Script) try(i int) (fr.El, api.Errno) {
	sum := s.sum(tried, count(i))
	sum[0] %= 32
	return fr.From(sum)
}

// challenge is the next one, behind which the script goes on.
func (s *Script) challenge() (x fr.El) {
	e := api.OK
	for x, e = range s.tries() {
		if e == api.OK {
			break
		}
	}
	b := x.Scalar()
	s.state = s.sum(drawn, b[:])
	return x
}

// challenges are drawn one by one, without an end.
func (s *Script) challenges() iter.Seq[fr.El] {
	return func(yield func(fr.El) bool) {
		for yield(s.challenge()) {
		}
	}
}

// outside is the first challenge whose n-th power is not 1.
func outside(n int, challenges iter.Seq[fr.El]) (x fr.El) {
	one, power := fr.Of(1), []uint64{uint64(n)}
	for x = range challenges {
		if x.Pow(power) != one {
			break
		}
	}
	return x
}
