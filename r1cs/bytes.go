package r1cs

import "marlinspike/api"

// How many bytes there are ahead of all entries, and of an entry.
const (
	headBytes  = 6 * 2
	entryBytes = 2*2 + len(api.Scalar{})
)

// lay are bytes, and those of numbers behind them.
func lay(b []byte, numbers ...uint32) []byte {
	for _, n := range numbers {
		b = append(b, byte(n>>8), byte(n))
	}
	return b
}

// reader tells what bytes say, a number or a scalar, at each call of either what stands
// behind that of the last.
func reader(b []byte) (number func() uint32, val func() api.Scalar) {
	number = func() uint32 {
		n := uint32(b[0])<<8 | uint32(b[1])
		b = b[2:]
		return n
	}
	val = func() api.Scalar {
		s := api.Scalar(b)
		b = b[len(s):]
		return s
	}
	return number, val
}

// read are so many entries that come next. Each matrix takes room of its own.
func read(number func() uint32, val func() api.Scalar, count int) []api.Entry {
	m := make([]api.Entry, count)
	for i := range m {
		m[i] = api.Entry{Row: number(), Col: number(), Val: val()}
	}
	return m
}
