package r1cs_test

import (
	"bytes"
	"fmt"
	"math/big"
	"slices"
	"testing"

	"marlinspike/api"
	"marlinspike/r1cs"
)

// P22.3

func TestBytes(t *testing.T) {
	s := numbers{state: 30}
	for _, x := range append(sketches(), greatSketches()...) {
		c := s.drawn(x)
		wantText(t, fmt.Sprint(x), c, text(c))
		if b, _ := r1cs.Bytes(c); len(b) != 12+36*(x.a+x.b+x.c) {
			t.Errorf("%v: %d bytes", x, len(b))
		}
	}
}

// Each number stands where it is to, of two bytes.
func TestEachNumber(t *testing.T) {
	c := api.Circuit{
		Rows: 0x0203, Cols: 0x0304, Inputs: 0x0102,
		A: entries([3]int64{0x0104, 0x0205, 0x0708}),
		B: entries([3]int64{0x0202, 0x0303, 9}),
	}
	for i := range 0x0105 {
		c.C = append(c.C, at(0x0106, i, whole(1)))
	}
	b := slices.Concat(
		[]byte{2, 3, 3, 4, 1, 2, 0, 1, 0, 1, 1, 5},
		[]byte{1, 4, 2, 5}, make([]byte, 30), []byte{7, 8},
		[]byte{2, 2, 3, 3}, make([]byte, 31), []byte{9},
	)
	for i := range 0x0105 {
		b = slices.Concat(b, []byte{1, 6, byte(i >> 8), byte(i)}, make([]byte, 31), []byte{1})
	}
	wantText(t, "by hand", c, b)
	wantText(t, "the least", api.Circuit{Rows: 1, Cols: 1, Inputs: 1}, []byte{0, 1, 0, 1, 0, 1, 0, 0, 0, 0, 0, 0})
	wantText(t, "the greatest without entries", api.Circuit{Rows: 1024, Cols: 1024, Inputs: 1024}, []byte{4, 0, 4, 0, 4, 0, 0, 0, 0, 0, 0, 0})
}

// The most entries: there and back, and of one byte less or more.
func TestHighestCounts(t *testing.T) {
	s := numbers{state: 31}
	c := s.drawn(sketch{1024, 1024, 7, 4096, 4096, 4096})
	b := text(c)
	if len(b) != 12+3*4096*36 {
		t.Fatalf("the model: %d", len(b))
	}
	wantText(t, "the most", c, b)
	refuseGet(t, "a byte less", b[:len(b)-1], api.ErrShort)
	refuseGet(t, "an entry less", b[:len(b)-36], api.ErrShort)
	refuseGet(t, "a byte more", append(slices.Clone(b), 0), api.ErrLong)
	refuseGet(t, "an entry more", append(slices.Clone(b), b[len(b)-36:]...), api.ErrLong)
	b[12+36*12287+4] = 255
	refuseGet(t, "the last scalar", b, api.ErrField)
	clear(b[12+36*12287+4:])
	refuseGet(t, "the last scalar is 0", b, api.ErrZero)
	b[12+36*12287] = 4
	refuseGet(t, "the last row", b, api.ErrIndex)
	for i := range 3 {
		ns := []uint32{1024, 1024, 7, 0, 0, 0}
		ns[3+i] = 4096
		b := append(head(ns...), text(api.Circuit{A: filled(4096)})[12:]...)
		got, e := r1cs.Get(b)
		if e != api.OK || !slices.Equal(*matrices(&got)[i], filled(4096)) || len(got.A)+len(got.B)+len(got.C) != 4096 {
			t.Errorf("all in the matrix %d: %v", i, e)
		}
		ns[3+i] = 4097
		for _, length := range []int{0, 36 * 4096, 36 * 4097, 36 * 4098} {
			refuseGet(t, fmt.Sprintf("one more in the matrix %d, and %d bytes", i, length), append(head(ns...), make([]byte, length)...), api.ErrLong)
		}
	}
}

// Of each number of bytes.
func TestGetOfAnyLength(t *testing.T) {
	s := numbers{state: 32}
	for _, x := range []sketch{{1, 1, 1, 0, 0, 0}, {1, 3, 2, 1, 1, 1}, {3, 4, 4, 0, 5, 6}, {3, 4, 2, 5, 6, 0}, {3, 4, 1, 5, 0, 6}} {
		c := s.drawn(x)
		right := text(c)
		b := append(slices.Clone(right), make([]byte, 120)...)
		for length := range len(b) + 1 {
			what := fmt.Sprintf("%v, %d bytes", x, length)
			switch {
			case length < len(right):
				refuseGet(t, what, b[:length:length], api.ErrShort)
			case length > len(right):
				refuseGet(t, what, b[:length:length], api.ErrLong)
			default:
				wantText(t, what, c, b[:length:length])
			}
		}
		refuseGet(t, fmt.Sprint(x, " twice"), append(slices.Clone(right), right...), api.ErrLong)
	}
	refuseGet(t, "nil", nil, api.ErrShort)
	for length := range 12 {
		refuseGet(t, fmt.Sprint(length, " bytes that are all bits"), bytes.Repeat([]byte{255}, length), api.ErrShort)
		refuseGet(t, fmt.Sprint(length, " bytes"), make([]byte, length), api.ErrShort)
	}
}

// Each of the numbers is any of those that two bytes tell.
func TestGetOfAnyNumber(t *testing.T) {
	for i, number := range []string{"rows", "columns", "inputs", "entries of A", "entries of B", "entries of C"} {
		for n := range uint32(1 << 16) {
			ns := []uint32{1024, 1024, 1, 0, 0, 0}
			ns[i] = n
			b := head(ns...)
			wanted := api.OK
			switch {
			case i < 3 && (n < 1 || n > 1024):
				wanted = api.ErrArg
			case i >= 3 && n > 4096:
				wanted = api.ErrLong
			case i >= 3 && n > 0:
				wanted = api.ErrShort
			}
			if _, e := r1cs.Get(b); e != wanted {
				t.Errorf("%d %s: %v, not %v", n, number, e, wanted)
			}
		}
	}
	for cols := range uint32(1030) {
		for _, inputs := range []uint32{0, 1, cols - 1, cols, cols + 1, 1024, 1025} {
			c := api.Circuit{Rows: 3, Cols: cols, Inputs: inputs & 0xffff}
			_, e := r1cs.Get(text(c))
			if e != fault(c) {
				t.Errorf("%d inputs of %d: %v, not %v", inputs, cols, e, fault(c))
			}
		}
	}
}

// What is asked first is answered: the numbers ahead of how many bytes there are, and
// both ahead of the entries, all of which are wrong.
func TestWhatGetAsksFirst(t *testing.T) {
	for _, rows := range []uint32{0, 1, 1024, 1025, 65535} {
		for _, cols := range []uint32{0, 1, 1024, 1025} {
			for _, inputs := range []uint32{0, 1, 2, 1025} {
				for _, inA := range []uint32{0, 1, 4097, 65535} {
					for _, inC := range []uint32{0, 2, 4097} {
						b := head(rows, cols, inputs, inA, 0, inC)
						right := 12 + 36*int(inA+inC)
						for _, length := range []int{12, 13, 47, 48, right - 36, right - 1, right, right + 1, right + 36} {
							if length < 12 || length > 1<<16 {
								continue
							}
							all := append(slices.Clone(b), bytes.Repeat([]byte{255}, length-12)...)
							_, wanted := parse(all)
							if _, e := r1cs.Get(all); e != wanted {
								t.Errorf("%v and %d bytes: %v, not %v", b, length, e, wanted)
							}
						}
					}
				}
			}
		}
	}
}

// Two flaws of entries: the first one is answered.
func TestGetFlaws(t *testing.T) {
	s := numbers{state: 33}
	told := map[api.Errno]int{}
	for i := range 5000 {
		c := s.spoilt(s.drawn(sketches()[6+i%12]), i%4)
		b := text(c)
		o, wanted := parse(b)
		told[wanted]++
		if wanted == api.OK {
			wantText(t, fmt.Sprint("the circuit ", i), o, b)
			continue
		}
		refuseGet(t, fmt.Sprint("the circuit ", i), b, wanted)
	}
	for _, e := range []api.Errno{api.OK, api.ErrArg, api.ErrLong, api.ErrIndex, api.ErrField, api.ErrZero} {
		if told[e] < 30 {
			t.Errorf("too few are %v: %v", e, told)
		}
	}
}

// Each byte of a circuit's is another one: what is read has just these bytes.
func TestEachByte(t *testing.T) {
	s := numbers{state: 34}
	told := map[api.Errno]int{}
	for _, c := range []api.Circuit{square(), cube(), odd(), s.drawn(sketch{5, 6, 3, 4, 0, 5})} {
		was := text(c)
		for i := range was {
			for _, n := range []byte{0, 1, 2, 3, 18, 127, 128, 254, 255, was[i] + 1, was[i] - 1} {
				b := slices.Clone(was)
				b[i] = n
				o, wanted := parse(b)
				told[wanted]++
				if wanted != api.OK {
					refuseGet(t, fmt.Sprintf("the byte %d is %d", i, n), b, wanted)
					continue
				}
				wantText(t, fmt.Sprintf("the byte %d is %d", i, n), o, b)
			}
		}
	}
	if told[api.OK] < 1000 || told[api.ErrField] < 100 || told[api.ErrIndex] < 100 || told[api.ErrZero] < 5 {
		t.Errorf("too few: %v", told)
	}
}

// A number that is not below r has no other bytes.
func TestGetReadsNumbersBelowRAlone(t *testing.T) {
	for _, x := range values() {
		for i := range 3 {
			c := square()
			(*matrices(&c)[i])[0].Val = x.val
			what := fmt.Sprintf("%x in the matrix %d", x.val, i)
			if x.wanted == api.OK {
				wantText(t, what, c, text(c))
				continue
			}
			refuseGet(t, what, text(c), x.wanted)
		}
	}
	c := square()
	c.A[0].Val = bytesOf(new(big.Int).Add(r, whole(1)))
	refuseGet(t, "r + 1", text(c), api.ErrField)
}

// What is no circuit has no bytes; its numbers may be more than two bytes tell.
func TestBytesRefuses(t *testing.T) {
	for _, n := range counts() {
		c := square()
		c.Rows = n
		wantCheck(t, fmt.Sprint(n, " rows"), c, fault(c))
		c = square()
		c.Cols = n
		wantCheck(t, fmt.Sprint(n, " columns"), c, fault(c))
		c = square()
		c.Inputs = n
		wantCheck(t, fmt.Sprint(n, " inputs"), c, fault(c))
	}
	c := square()
	c.A = append(c.A, entries([3]int64{0, 1, 5})...)
	wantCheck(t, "out of order", c, api.ErrIndex)
	c = square()
	c.C[0].Row = 1 << 16
	wantCheck(t, "a row whose last bytes are 0", c, api.ErrIndex)
}
