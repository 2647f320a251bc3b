package marlin

import (
	"slices"

	"marlinspike/api"
	"marlinspike/fr"
)

// inOrder does steps one behind the other, as long as nothing is wrong.
func inOrder(steps ...func() api.Errno) api.Errno {
	for _, step := range steps {
		if e := step(); e != api.OK {
			return e
		}
	}
	return api.OK
}

// made is the step that makes one thing of another, which a step ahead may have made.
func made[A, B any](to *B, of func(from A) (B, api.Errno), from *A) func() api.Errno {
	return func() (e api.Errno) {
		*to, e = of(*from)
		return e
	}
}

// must tells an error, if something is not so.
func must(is bool, wrong api.Errno) api.Errno {
	if !is {
		return wrong
	}
	return api.OK
}

// holds tells ErrReject, if what was asked does not hold.
func holds(is bool, e api.Errno) api.Errno {
	if e != api.OK {
		return e
	}
	return must(is, api.ErrReject)
}

// scalars are those of bytes.
func scalars(b []byte) ([]fr.El, api.Errno) {
	const width = len(api.Scalar{})
	if len(b)%width != 0 {
		return nil, api.ErrShort
	}
	var l []fr.El
	for text := range slices.Chunk(b, width) {
		x, e := fr.From(api.Scalar(text))
		if e != api.OK {
			return nil, e
		}
		l = append(l, x)
	}
	return l, api.OK
}
