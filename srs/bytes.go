package srs

import "marlinspike/api"

// How many bytes there are of the degree, and of all points at one place: a power
// and a blind. Tau takes as many as they do.
const (
	countBytes = 2
	placeBytes = 48 + 48
	tauBytes   = 96
)

// room is what a point's bytes lie in.
type room interface{ [48]byte | [96]byte }

// layCount are a degree's bytes.
func layCount(n int) []byte { return []byte{byte(n >> 8), byte(n)} }

// count is the degree that bytes begin with, if they are as many as it takes.
func count(b []byte) (int, api.Errno) {
	if len(b) < countBytes {
		return 0, api.ErrShort
	}
	n := int(b[0])<<8 | int(b[1])
	all := countBytes + (n+1)*placeBytes + tauBytes
	switch {
	case !may(n):
		return 0, api.ErrArg
	case len(b) < all:
		return 0, api.ErrShort
	case len(b) > all:
		return 0, api.ErrLong
	}
	return n, api.OK
}

// lay are bytes, and those of points behind them.
func lay[P any, B room](b []byte, put func(P) B, ps ...P) []byte {
	for _, p := range ps {
		text := put(p)
		for i := range len(text) {
			b = append(b, text[i])
		}
	}
	return b
}

// taker tells bytes one by one, at each call the one behind that of the last.
func taker(b []byte) func() byte {
	return func() byte {
		first := b[0]
		b = b[1:]
		return first
	}
}

// read are so many points, of the bytes that come next; or else the first one's
// error.
func read[P any, B room](next func() byte, get func(B) (P, api.Errno), count int) ([]P, api.Errno) {
	var l []P
	for range count {
		var text B
		for i := range len(text) {
			text[i] = next()
		}
		p, e := get(text)
		if e != api.OK {
			return nil, e
		}
		l = append(l, p)
	}
	return l, api.OK
}
