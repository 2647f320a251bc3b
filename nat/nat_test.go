package nat_test

import (
	"math"
	"slices"
	"testing"

	"marlinspike/api"
	"marlinspike/nat"
)

// P1.1

func TestOf(t *testing.T) {
	for _, c := range []struct{ in, want []uint64 }{
		{words(5, 0), words(5)},
		{words(0), nil},
		{nil, nil},
		{words(), nil},
		{words(0, 0, 0), nil},
		{words(1, 2, 3), words(1, 2, 3)},
		{words(0, 0, 7, 0, 0), words(0, 0, 7)},
		{words(0, top), words(0, top)},
		{with(ones(api.MaxWords), 5), ones(api.MaxWords)},
		{ones(api.MaxWords + 1), ones(api.MaxWords + 1)},
	} {
		if got := nat.Of(c.in...); !slices.Equal(got, c.want) {
			t.Errorf("Of(%x) = %x, not %x", c.in, got, c.want)
		}
	}
	if got := nat.Of(); len(got) != 0 {
		t.Errorf("Of() = %x", got)
	}
}

func TestCmp(t *testing.T) {
	for _, c := range []struct {
		a, b []uint64
		want int
	}{
		{nil, nil, 0},
		{nil, words(), 0},
		{nil, words(0, 0), 0},
		{words(0), words(), 0},
		{words(5, 0), words(5), 0},
		{words(5), words(5, 0, 0), 0},
		{words(1, 2, 3), words(1, 2, 3), 0},
		{words(0, 1), words(5), 1},
		{words(1), words(0), 1},
		{words(2), words(1), 1},
		{words(top), words(1), 1},
		{words(1 << 63), words(1<<63 - 1), 1},
		{words(0, 2), words(top, 1), 1},
		{words(1, 9, 4), words(0, 9, 4), 1},
		{words(1), words(0, 0, 0), 1},
		{words(0, 1, 0), words(top, 0, 0, 0, 0), 1},
		{words(3, 5), words(2, 5, 0), 1},
		{with(words(1), 200), nil, 1},
		{ones(api.MaxWords + 1), ones(api.MaxWords), 1},
	} {
		if got := nat.Cmp(c.a, c.b); got != c.want {
			t.Errorf("Cmp(%x, %x) = %d, not %d", c.a, c.b, got, c.want)
		}
		if got := nat.Cmp(c.b, c.a); got != -c.want {
			t.Errorf("Cmp(%x, %x) = %d, not %d", c.b, c.a, got, -c.want)
		}
	}
}

func TestBits(t *testing.T) {
	for _, c := range []struct {
		a    []uint64
		want int
	}{
		{nil, 0}, {words(), 0}, {words(0), 0}, {words(0, 0), 0},
		{words(1), 1}, {words(2), 2}, {words(3), 2}, {words(4), 3}, {words(5, 0, 0), 3},
		{words(1 << 63), 64}, {words(top), 64}, {words(0, 1), 65}, {words(0, 4), 67},
		{words(0, 4, 0), 67}, {words(0, 0, top), 192},
		{ones(api.MaxWords), 64 * api.MaxWords},
		{with(ones(api.MaxWords+1), 1), 64 * (api.MaxWords + 1)},
	} {
		if got := nat.Bits(c.a); got != c.want {
			t.Errorf("Bits(%x) = %d, not %d", c.a, got, c.want)
		}
	}
}

func TestBit(t *testing.T) {
	a := words(5, 1<<63|4, 0)
	set := []int{0, 2, 66, 127}
	for i := range 64*len(a) + 70 {
		want := uint64(0)
		if slices.Contains(set, i) {
			want = 1
		}
		if got := nat.Bit(a, i); got != want {
			t.Errorf("Bit(%x, %d) = %d, not %d", a, i, got, want)
		}
	}
	all := ones(api.MaxWords + 1)
	last := 64*len(all) - 1
	if nat.Bit(all, last) != 1 || nat.Bit(all, last-1) != 1 {
		t.Error("the highest bits of a long list")
	}
	for _, i := range []int{-1, -2, -63, -64, -65, math.MinInt, last + 1, last + 64, math.MaxInt} {
		if got := nat.Bit(all, i); got != 0 {
			t.Errorf("Bit(ones, %d) = %d", i, got)
		}
	}
	for _, i := range []int{-1, 0, 1, 64} {
		if nat.Bit(nil, i) != 0 || nat.Bit(words(), i) != 0 || nat.Bit(words(0), i) != 0 {
			t.Errorf("bit %d of 0", i)
		}
	}
}

// P1.2

func TestAdd(t *testing.T) {
	for _, c := range []struct{ a, b, want []uint64 }{
		{words(top), words(1), words(0, 1)},
		{words(top, top), words(1), words(0, 0, 1)},
		{words(2), words(3), words(5)},
		{nil, nil, nil},
		{words(), words(0, 0), nil},
		{nil, words(7, 0), words(7)},
		{words(7, 0, 0), words(1), words(8)},
		{words(1, 2), words(3, 4, 5), words(4, 6, 5)},
		{words(top, 1), words(top, top, 3), words(top-1, 1, 4)},
		{ones(api.MaxWords), words(1), append(make([]uint64, api.MaxWords), 1)},
		{ones(api.MaxWords), ones(api.MaxWords), append(append(words(top-1), ones(api.MaxWords-1)...), 1)},
	} {
		got, e := nat.Add(c.a, c.b)
		wantNumber(t, "Add", got, e, c.want)
		got, e = nat.Add(c.b, c.a)
		wantNumber(t, "Add, turned", got, e, c.want)
	}
}

func TestSub(t *testing.T) {
	for _, c := range []struct{ a, b, want []uint64 }{
		{words(0, 1), words(1), words(top)},
		{words(0, 0, 1), words(1), words(top, top)},
		{words(5), words(3), words(2)},
		{words(5), nil, words(5)},
		{words(5, 0), words(5), nil},
		{words(5), words(5, 0, 0, 0), nil},
		{nil, nil, nil},
		{words(0), words(), nil},
		{words(9, 8, 7), words(9, 8, 6), words(0, 0, 1)},
		{words(1, 2, 3), words(2, 2), words(top, top, 2)},
		{with(words(7), 79), with(words(3), 79), words(4)},
		{ones(api.MaxWords), ones(api.MaxWords), nil},
		{ones(api.MaxWords), words(top), append(words(0), ones(api.MaxWords-1)...)},
	} {
		got, e := nat.Sub(c.a, c.b)
		wantNumber(t, "Sub", got, e, c.want)
	}
	for _, c := range []struct{ a, b []uint64 }{
		{words(3), words(5)},
		{nil, words(1)},
		{words(0, 0), words(1)},
		{words(top), words(0, 1)},
		{words(top, 0, 0), words(0, 1)},
		{words(1, 5), words(2, 5)},
		{ones(api.MaxWords - 1), ones(api.MaxWords)},
	} {
		got, e := nat.Sub(c.a, c.b)
		wantError(t, "Sub", got, e, api.ErrArg)
	}
}

func TestMul(t *testing.T) {
	square := append(words(1), make([]uint64, api.MaxWords-1)...)
	square = append(append(square, top-1), ones(api.MaxWords-1)...)
	for _, c := range []struct{ a, b, want []uint64 }{
		{words(top), words(top), words(1, top-1)},
		{words(2), words(3), words(6)},
		{nil, nil, nil},
		{nil, words(5), nil},
		{words(0, 0), words(5, 6), nil},
		{words(1, 0), words(7, 8, 0), words(7, 8)},
		{words(0, 1), words(0, 0, 3), words(0, 0, 0, 3)},
		{words(1 << 32), words(1 << 32), words(0, 1)},
		{words(top, top), words(top, top), words(1, 0, top-1, top)},
		{words(top, 0, top), words(top), words(1, top-1, 1, top-1)},
		{ones(api.MaxWords), ones(api.MaxWords), square},
		{ones(api.MaxWords), words(2), append(append(words(top-1), ones(api.MaxWords-1)...), 1)},
		{ones(api.MaxWords), nil, nil},
	} {
		got, e := nat.Mul(c.a, c.b)
		wantNumber(t, "Mul", got, e, c.want)
		got, e = nat.Mul(c.b, c.a)
		wantNumber(t, "Mul, turned", got, e, c.want)
	}
}

// P1.3

func TestDivMod(t *testing.T) {
	for _, c := range []struct{ a, b, quotient, rest []uint64 }{
		{words(17), words(5), words(3), words(2)},
		{words(5, 7), words(0, 1), words(7), words(5)},
		{words(15), words(5), words(3), nil},
		{words(4), words(5), nil, words(4)},
		{words(5), words(5), words(1), nil},
		{nil, words(5), nil, nil},
		{words(0, 0), words(5, 0), nil, nil},
		{words(17, 0, 0), words(5, 0, 0, 0), words(3), words(2)},
		{words(top, top, top), words(1), words(top, top, top), nil},
		{words(top, top, top), words(2), words(top, top, top>>1), words(1)},
		{words(0, 0, 1), words(top), words(1, 1), words(1)},
		{words(top, top, top), words(top, top), words(0, 1), words(top)},
		{words(0, 0, 1<<63), words(1, 1<<63), words(top), words(1, 1<<63-1)},
		{words(1, 2, 3), words(1, 2, 3), words(1), nil},
		{words(0, 2, 3), words(1, 2, 3), nil, words(0, 2, 3)},
		{words(8), words(0, 0, 0, 1), nil, words(8)},
		{words(8, 9, 10), words(0, 0, 0, 0, 1), nil, words(8, 9, 10)},
		{ones(api.MaxWords), ones(api.MaxWords), words(1), nil},
		{ones(api.MaxWords), words(1), ones(api.MaxWords), nil},
		{ones(api.MaxWords), ones(1), slices.Repeat(words(1), api.MaxWords), nil},
		{words(6), with(words(4), api.MaxWords-1), words(1), words(2)},
	} {
		quotient, rest, e := nat.DivMod(c.a, c.b)
		wantNumber(t, "DivMod's quotient", quotient, e, c.quotient)
		wantNumber(t, "DivMod's rest", rest, e, c.rest)
	}
	for _, zero := range [][]uint64{nil, {}, {0}, {0, 0}, make([]uint64, api.MaxWords)} {
		for _, a := range [][]uint64{nil, {0}, {1}, ones(api.MaxWords)} {
			quotient, rest, e := nat.DivMod(a, zero)
			wantError(t, "DivMod by 0", append(quotient, rest...), e, api.ErrZero)
		}
	}
}

// P1.4

func TestBytes(t *testing.T) {
	for _, c := range []struct {
		a    []uint64
		n    int
		want []byte
	}{
		{words(258), 3, []byte{0, 1, 2}},
		{words(258), 2, []byte{1, 2}},
		{words(255), 1, []byte{255}},
		{nil, 0, nil},
		{words(0, 0), 0, nil},
		{nil, 2, []byte{0, 0}},
		{words(1, 0, 0), 1, []byte{1}},
		{words(0x0102030405060708), 8, []byte{1, 2, 3, 4, 5, 6, 7, 8}},
		{words(0x0203040506070809, 1), 9, []byte{1, 2, 3, 4, 5, 6, 7, 8, 9}},
		{words(7, 1), 10, []byte{0, 1, 0, 0, 0, 0, 0, 0, 0, 7}},
		{ones(api.MaxWords), 8 * api.MaxWords, slices.Repeat([]byte{255}, 8*api.MaxWords)},
		{words(9), 8 * api.MaxWords, append(make([]byte, 8*api.MaxWords-1), 9)},
		{make([]uint64, api.MaxWords), 1, []byte{0}},
	} {
		if got, e := nat.Bytes(c.a, c.n); e != api.OK || !slices.Equal(got, c.want) {
			t.Errorf("Bytes(%x, %d) = %x, %v, not %x", c.a, c.n, got, e, c.want)
		}
	}
}

func TestBytesErrors(t *testing.T) {
	for _, c := range []struct {
		a    []uint64
		n    int
		want api.Errno
	}{
		{words(258), 1, api.ErrArg},
		{words(256), 1, api.ErrArg},
		{words(1), 0, api.ErrArg},
		{words(0, 1), 8, api.ErrArg},
		{ones(api.MaxWords), 8*api.MaxWords - 1, api.ErrArg},
		{words(1), -1, api.ErrArg},
		{nil, -1, api.ErrArg},
		{nil, math.MinInt, api.ErrArg},
		{nil, 8*api.MaxWords + 1, api.ErrLong},
		{words(1), 8*api.MaxWords + 1, api.ErrLong},
		{words(1), math.MaxInt, api.ErrLong},
		{words(1), math.MaxInt/8 + 2, api.ErrLong},
		{make([]uint64, api.MaxWords+1), 0, api.ErrLong},
		{with(words(1), api.MaxWords), 1, api.ErrLong},
		{ones(api.MaxWords + 1), 8, api.ErrLong},
		{ones(api.MaxWords + 1), -1, api.ErrLong},
		{make([]uint64, api.MaxWords+1), math.MinInt, api.ErrLong},
	} {
		got, e := nat.Bytes(c.a, c.n)
		wantError(t, "Bytes", got, e, c.want)
	}
}

func TestFromBytes(t *testing.T) {
	for _, c := range []struct {
		b    []byte
		want []uint64
	}{
		{[]byte{1, 2}, words(258)},
		{nil, nil},
		{[]byte{}, nil},
		{[]byte{0}, nil},
		{make([]byte, 17), nil},
		{[]byte{0, 0, 9}, words(9)},
		{[]byte{1, 2, 3, 4, 5, 6, 7, 8}, words(0x0102030405060708)},
		{[]byte{255, 0, 0, 0, 0, 0, 0, 0, 1}, words(1, 255)},
		{append([]byte{0, 0, 0, 0, 0, 0, 0, 0}, 5), words(5)},
		{slices.Repeat([]byte{255}, 8*api.MaxWords), ones(api.MaxWords)},
		{append([]byte{1}, make([]byte, 8*api.MaxWords-1)...), append(make([]uint64, api.MaxWords-1), 1<<56)},
		{make([]byte, 8*api.MaxWords), nil},
	} {
		got, e := nat.FromBytes(c.b)
		wantNumber(t, "FromBytes", got, e, c.want)
	}
	for _, b := range [][]byte{make([]byte, 8*api.MaxWords+1), slices.Repeat([]byte{1}, 8*api.MaxWords+1), make([]byte, 100000)} {
		got, e := nat.FromBytes(b)
		wantError(t, "FromBytes", got, e, api.ErrLong)
	}
}

// A list that is too long is told first, whatever it is worth and whatever else is wrong.
func TestLong(t *testing.T) {
	longs := [][]uint64{make([]uint64, api.MaxWords+1), with(words(5), api.MaxWords), ones(api.MaxWords + 1), make([]uint64, 1000)}
	others := [][]uint64{nil, {}, {0}, {1}, {0, 0}, ones(api.MaxWords), ones(api.MaxWords + 1)}
	for _, long := range longs {
		for _, other := range others {
			wantLong(t, long, other)
			wantLong(t, other, long)
		}
	}
}

func wantLong(t *testing.T, a, b []uint64) {
	t.Helper()
	got, e := nat.Add(a, b)
	wantError(t, "Add", got, e, api.ErrLong)
	got, e = nat.Sub(a, b)
	wantError(t, "Sub", got, e, api.ErrLong)
	got, e = nat.Mul(a, b)
	wantError(t, "Mul", got, e, api.ErrLong)
	quotient, rest, e := nat.DivMod(a, b)
	wantError(t, "DivMod's quotient", quotient, e, api.ErrLong)
	wantError(t, "DivMod's rest", rest, e, api.ErrLong)
}
