package blake_test

import (
	"bytes"
	"slices"
	"strconv"
	"testing"

	"marlinspike/blake"
)

// P15.1

// Its form is a part of the promise: any list of lists, and 32 bytes.
var _ func(parts ...[]byte) [32]byte = blake.Sum

func TestPublishedSums(t *testing.T) {
	for _, x := range published() {
		want(t, strconv.Quote(x.text), blake.Sum([]byte(x.text)), read(t, x.sum))
		want(t, strconv.Quote(x.text)+" by the chapter's words", model([]byte(x.text)), read(t, x.sum))
	}
}

func TestSumsWorkedOutApart(t *testing.T) {
	for _, x := range apart() {
		b := counting(x.count)
		want(t, strconv.Itoa(x.count)+" counting", blake.Sum(b), read(t, x.sum))
		want(t, strconv.Itoa(x.count)+" counting, by the chapter's words", model(b), read(t, x.sum))
	}
	for _, x := range ones() {
		b := slices.Repeat([]byte{255}, x.count)
		want(t, strconv.Itoa(x.count)+" bytes of all ones", blake.Sum(b), read(t, x.sum))
	}
	for _, x := range zeros() {
		want(t, strconv.Itoa(x.count)+" bytes 0", blake.Sum(make([]byte, x.count)), read(t, x.sum))
	}
}

// Without a byte one block of zeros is taken, as the last one, and as one of which
// no byte was there: so the sum is another one than that of bytes 0.
func TestNoBytes(t *testing.T) {
	none := read(t, published()[0].sum)
	want(t, "no parts", blake.Sum(), none)
	want(t, "a nil list of parts", blake.Sum([][]byte(nil)...), none)
	want(t, "an empty list of parts", blake.Sum([][]byte{}...), none)
	want(t, "a nil part", blake.Sum(nil), none)
	want(t, "an empty part", blake.Sum([]byte{}), none)
	want(t, "parts without a byte", blake.Sum(nil, []byte{}, nil, make([]byte, 0, 64), []byte("abc")[:0]), none)
	want(t, "many parts without a byte", blake.Sum(make([][]byte, 1000)...), none)
	for n := range 200 {
		if n > 0 && blake.Sum(make([]byte, n)) == none {
			t.Errorf("%d bytes 0 are as none", n)
		}
	}
}

func TestEachCount(t *testing.T) {
	for n := range 400 {
		for i, b := range kinds(n) {
			want(t, strconv.Itoa(n)+" bytes of the kind "+strconv.Itoa(i), blake.Sum(b), model(b))
		}
	}
}

// A full block is the last one just if there is no byte behind it.
func TestEdgesOfBlocks(t *testing.T) {
	for blocks := range 70 {
		for _, more := range []int{-2, -1, 0, 1, 2} {
			if n := 64*blocks + more; n >= 0 {
				for i, b := range kinds(n) {
					want(t, strconv.Itoa(n)+" bytes of the kind "+strconv.Itoa(i), blake.Sum(b), model(b))
				}
			}
		}
	}
}

// Bytes 0 at the end count.
func TestZerosAtTheEnd(t *testing.T) {
	for _, n := range counts() {
		for _, b := range kinds(n) {
			seen := map[[32]byte]int{}
			for more := range 140 {
				longer := append(slices.Clone(b), make([]byte, more)...)
				sum := blake.Sum(longer)
				if before, is := seen[sum]; is {
					t.Errorf("%d bytes, with %d zeros behind, are as with %d", n, more, before)
				}
				seen[sum] = more
				if more < 5 || (n+more)%64 < 2 || (n+more)%64 > 62 {
					want(t, strconv.Itoa(n)+" bytes and "+strconv.Itoa(more)+" zeros", sum, model(longer))
				}
			}
		}
	}
}

// Zeros in front count, too.
func TestZerosInFront(t *testing.T) {
	for n := range 140 {
		b := append(make([]byte, n), "abc"...)
		want(t, strconv.Itoa(n)+" zeros and abc", blake.Sum(b), model(b))
	}
}

// Each bit of each byte has its own place.
func TestEachBit(t *testing.T) {
	for _, n := range []int{1, 3, 64, 65, 128, 150} {
		b := counting(n)
		seen := map[[32]byte]int{blake.Sum(b): -1}
		for i := range 8 * n {
			b[i/8] ^= 1 << (i % 8)
			sum := blake.Sum(b)
			want(t, strconv.Itoa(n)+" bytes, the bit "+strconv.Itoa(i)+" turned over", sum, model(b))
			if before, is := seen[sum]; is {
				t.Errorf("%d bytes: the bits %d and %d are as one", n, i, before)
			}
			seen[sum] = i
			b[i/8] ^= 1 << (i % 8)
		}
	}
}

// Each byte of a sum is laid where it must be: sums of sums go on from one to the
// next.
func TestSumsOfSums(t *testing.T) {
	var sum, wanted [32]byte
	for i := range 300 {
		sum, wanted = blake.Sum(sum[:], counting(i)), model(append(wanted[:], counting(i)...))
		want(t, "the sum of sums "+strconv.Itoa(i), sum, wanted)
	}
}

func TestManyBytes(t *testing.T) {
	s := numbers{state: 1}
	for _, n := range []int{1000, 4095, 4096, 4097, 5000, 9999, 32767, 32768, 32769, 65472, 65535, 65536, 65537, 65599, 65600, 65601, 100000, 131071, 131072, 131073, 262143, 262144, 262145, 300000, 1048576} {
		for _, b := range [][]byte{counting(n), s.bytes(n), make([]byte, n), slices.Repeat([]byte{255}, n)} {
			want(t, strconv.Itoa(n)+" bytes", blake.Sum(b), model(b))
		}
	}
}

// How many bytes there were goes above 24 bits.
func TestVeryManyBytes(t *testing.T) {
	b := bytes.Repeat([]byte("marlinspike"), 1<<24/11+100)
	for _, n := range []int{1<<24 - 1, 1 << 24, 1<<24 + 1, len(b)} {
		want(t, strconv.Itoa(n)+" bytes", blake.Sum(b[:n]), model(b[:n]))
	}
}
