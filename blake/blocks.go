package blake

import "iter"

const (
	blockLen   = 16 // words of a block
	blockBytes = blockLen * wordBytes
)

// block is one of those in which the bytes are taken.
type block struct {
	bytes [blockBytes]byte
	end   uint64 // how many bytes there were up to its end
	last  bool
}

// blocks goes through those of all parts. A full one waits until there are more
// bytes, as it is the last one if there are none.
func blocks(parts [][]byte) iter.Seq[block] {
	return func(yield func(block) bool) {
		var b block
		full := 0
		for _, part := range parts {
			for len(part) > 0 {
				if full == blockBytes {
					if !yield(b) {
						return
					}
					b, full = block{end: b.end}, 0
				}
				n := copy(b.bytes[full:], part)
				part = part[n:]
				full += n
				b.end += uint64(n)
			}
		}
		b.last = true
		yield(b)
	}
}

// words are a block's, of whose bytes the lowest stands first.
func (b block) words() (m [blockLen]uint32) {
	for i, x := range b.bytes {
		m[i/wordBytes] |= uint32(x) << (i % wordBytes * 8)
	}
	return m
}
