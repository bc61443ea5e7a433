package pack_test

import (
	"bytes"
	"math"
	"math/bits"
	"slices"
	"testing"

	"lectern/api"
	"lectern/pack"
)

// most is how many numbers a row that is read may have.
const most = 1 << 20

// dice throws numbers by a rule of their own, the same ones each time.
type dice uint64

func (x *dice) throw() uint64 {
	*x = *x*6364136223846793005 + 1442695040888963407
	return uint64(*x>>32)<<32 | uint64(*x*0x9e3779b97f4a7c15>>32)
}

func (x *dice) below(n int) int { return int(x.throw() >> 1 % uint64(n)) }

// numbers throws n numbers of at most so many bits.
func (x *dice) numbers(n, width int) []uint64 {
	out := make([]uint64, n)
	for i := range out {
		out[i] = x.throw() >> (64 - width)
	}
	return out
}

// packed tells numbers packed, bit by bit: first the row of all bits, then the bytes.
func packed(l []uint64, width int) []byte {
	var row []uint64
	for _, n := range l {
		for i := range width {
			row = append(row, n>>i&1)
		}
	}
	for len(row)%8 > 0 {
		row = append(row, 0)
	}
	out := []byte{}
	for i := range len(row) / 8 {
		c := uint64(0)
		for j, bit := range row[8*i : 8*i+8] {
			c += bit << j
		}
		out = append(out, byte(c))
	}
	return out
}

// same fails unless an answer is these bytes.
func same(t *testing.T, what string, got []byte, want ...byte) {
	t.Helper()
	if !bytes.Equal(got, want) {
		t.Errorf("%s: % x of %d bytes, want % x of %d", what, got[:min(len(got), 40)], len(got), want[:min(len(want), 40)], len(want))
	}
}

// unbits fails unless Unbits answers these numbers.
func unbits(t *testing.T, b []byte, width, n int, want ...uint64) {
	t.Helper()
	if got, e := pack.Unbits(b, width, n); e != api.OK || !slices.Equal(got, want) {
		t.Errorf("Unbits(% x, %d, %d): %v, %d, want %v", b, width, n, got, e, want)
	}
}

// refused fails unless Unbits answers this error and nothing else.
func refused(t *testing.T, b []byte, width, n int, want api.Errno) {
	t.Helper()
	if got, e := pack.Unbits(b, width, n); e != want || len(got) > 0 {
		t.Errorf("Unbits of %d bytes at %d, %d: %d numbers, error %d, want %d", len(b), width, n, len(got), e, want)
	}
}

func TestWidth(t *testing.T) {
	for _, x := range []struct {
		l    []uint64
		want int
	}{{[]uint64{5, 0, 3}, 3}, {[]uint64{0}, 0}, {nil, 0}, {[]uint64{}, 0}, {[]uint64{math.MaxUint64}, 64}, {[]uint64{0, 0, 0}, 0}, {[]uint64{1}, 1}, {[]uint64{4, 3, 3}, 3}, {[]uint64{1, 2}, 2}, {[]uint64{0, 1 << 63, 1}, 64}} {
		if got := pack.Width(x.l); got != x.want {
			t.Errorf("Width of %v: %d, want %d", x.l, got, x.want)
		}
	}
	for i := range 64 {
		for _, l := range [][]uint64{{1 << i}, {0, 1 << i}, {1 << i, 1}, {1<<i | 1, 0}, {1<<i - 1, 1 << i}} {
			if got := pack.Width(l); got != i+1 {
				t.Errorf("Width of %v: %d, want %d", l, got, i+1)
			}
		}
		if got := pack.Width([]uint64{1<<i - 1}); got != i {
			t.Errorf("Width of 2^%d - 1: %d", i, got)
		}
	}
}

func TestBits(t *testing.T) {
	same(t, "5 0 3 at 3", pack.Bits([]uint64{5, 0, 3}, 3), 0xc5, 0)
	same(t, "5 0 3 at 8", pack.Bits([]uint64{5, 0, 3}, 8), 5, 0, 3)
	same(t, "5 0 3 at 0", pack.Bits([]uint64{5, 0, 3}, 0))
	same(t, "5 0 3 at 1: low bits", pack.Bits([]uint64{5, 0, 3}, 1), 5)
	same(t, "1 at 16", pack.Bits([]uint64{1}, 16), 1, 0)
	same(t, "0x123 at 12", pack.Bits([]uint64{0x123, 0x456}, 12), 0x23, 0x61, 0x45)
	same(t, "2^64 - 1 at 64", pack.Bits([]uint64{math.MaxUint64}, 64), bytes.Repeat([]byte{0xff}, 8)...)
	same(t, "2^64 - 1 at 63", pack.Bits([]uint64{math.MaxUint64}, 63), append(bytes.Repeat([]byte{0xff}, 7), 0x7f)...)
	for width := range 65 {
		same(t, "nothing", pack.Bits(nil, width))
	}
	for _, width := range []int{-1, 65, 72, 128, math.MinInt, math.MaxInt, math.MaxInt32} {
		same(t, "no width", pack.Bits([]uint64{5, 0, 3}, width))
		same(t, "no width, no numbers", pack.Bits(nil, width))
	}
}

// TestBitsModel: at all widths, numbers that have as many bits, fewer, and more.
func TestBitsModel(t *testing.T) {
	x := dice(1)
	for width := range 65 {
		for n := range 20 {
			for _, have := range []int{width, 64, x.below(65)} {
				l := x.numbers(n, have)
				l = append(l, 0, math.MaxUint64, 1, 0)
				same(t, "the bits", pack.Bits(l, width), packed(l, width)...)
			}
		}
	}
}

func TestUnbits(t *testing.T) {
	unbits(t, []byte{0xc5, 0}, 3, 3, 5, 0, 3)
	unbits(t, []byte{0xc5, 0}, 3, 4, 5, 0, 3, 0)
	unbits(t, []byte{0xc5, 0}, 3, 5, 5, 0, 3, 0, 0)
	unbits(t, []byte{0xc5, 0}, 8, 2, 0xc5, 0)
	unbits(t, []byte{0xc5, 0}, 16, 1, 0xc5)
	unbits(t, nil, 0, 3, 0, 0, 0)
	unbits(t, bytes.Repeat([]byte{0xff}, 8), 64, 1, math.MaxUint64)
	unbits(t, bytes.Repeat([]byte{0xff}, 8), 1, 64, slices.Repeat([]uint64{1}, 64)...)
	for width := range 65 {
		unbits(t, nil, width, 0)
		unbits(t, []byte{}, width, 0)
	}
	refused(t, []byte{0xc5, 0}, 3, 6, api.ErrCorrupt)
	refused(t, []byte{0xc5, 0x80}, 3, 3, api.ErrCorrupt)
	refused(t, []byte{0xc5, 0}, 3, 2, api.ErrCorrupt)
	refused(t, []byte{0}, 0, 0, api.ErrCorrupt)
	refused(t, []byte{0}, 0, 9, api.ErrCorrupt)
	refused(t, []byte{0}, 64, 0, api.ErrCorrupt)
	refused(t, nil, 1, 1, api.ErrCorrupt)
}

// TestUnbitsArg: ErrArg goes ahead of ErrCorrupt, and is asked ahead of anything that could wrap.
func TestUnbitsArg(t *testing.T) {
	for _, b := range [][]byte{nil, {0xc5, 0}, {0xff}} {
		for _, bad := range []int{-1, -8, math.MinInt, 65, 72, 128, math.MaxInt, math.MaxInt32 + 1} {
			for _, n := range []int{0, 1, 3, most} {
				refused(t, b, bad, n, api.ErrArg)
			}
		}
		for _, bad := range []int{-1, -8, math.MinInt, most + 1, math.MaxInt, math.MaxInt / 64, math.MaxInt32} {
			for _, width := range []int{0, 1, 3, 8, 64, 65} {
				refused(t, b, width, bad, api.ErrArg)
			}
		}
	}
}

// TestUnbitsMost: as many numbers as may be read at once.
func TestUnbitsMost(t *testing.T) {
	for _, width := range []int{0, 1, 7, 64} {
		b := make([]byte, most/8*width)
		if width > 0 {
			b[len(b)-1] = 0x80
		}
		l, e := pack.Unbits(b, width, most)
		if e != api.OK || len(l) != most {
			t.Fatalf("at %d: %d numbers, error %d", width, len(l), e)
		}
		if width > 0 && l[most-1] != 1<<(width-1) {
			t.Errorf("at %d: the last one is %x", width, l[most-1])
		}
		refused(t, append(b, 0), width, most, api.ErrCorrupt)
		refused(t, append(b, make([]byte, 8)...), width, most+1, api.ErrArg)
	}
}

// TestUnbitsLength: one byte more or less, or a bit behind the last number, is refused.
func TestUnbitsLength(t *testing.T) {
	x := dice(2)
	for width := range 65 {
		for n := range 20 {
			b := packed(x.numbers(n, 64), width)
			if len(b) > 0 {
				refused(t, b[:len(b)-1], width, n, api.ErrCorrupt)
			}
			refused(t, append(slices.Clone(b), 0), width, n, api.ErrCorrupt)
			for i := n * width; i < 8*len(b); i++ {
				b[i/8] ^= 1 << (i % 8)
				refused(t, b, width, n, api.ErrCorrupt)
				b[i/8] ^= 1 << (i % 8)
			}
		}
	}
}

// TestUnbitsOfBits is of P3.3: at the width, and at each above.
func TestUnbitsOfBits(t *testing.T) {
	x := dice(3)
	for have := range 65 {
		for _, n := range []int{1, 2, 7, 8, 9, 31} {
			l := x.numbers(n, have)
			for width := pack.Width(l); width <= 64; width++ {
				unbits(t, pack.Bits(l, width), width, n, l...)
			}
		}
	}
}

// TestBitsOfUnbits: what is read, packed, is what was read, so that no two rows of bytes tell the same.
func TestBitsOfUnbits(t *testing.T) {
	for width := range 17 {
		for _, n := range []int{1, 2, 3, 5, 16} {
			if n*width > 16 {
				continue
			}
			for i := range 1 << 16 {
				b := []byte{byte(i), byte(i >> 8)}[:(n*width+7)/8]
				if l, e := pack.Unbits(b, width, n); e == api.OK && !bytes.Equal(pack.Bits(l, width), b) {
					t.Fatalf("% x at %d, %d: %v", b, width, n, l)
				}
			}
		}
	}
}

// TestFewBytes is of P3.4: as few bytes as hold so many bits.
func TestFewBytes(t *testing.T) {
	x := dice(4)
	for width := range 65 {
		for n := range 300 {
			got, all := len(pack.Bits(x.numbers(n, 64), width)), n*width
			if 8*got < all || 8*got >= all+8 {
				t.Fatalf("%d numbers at %d: %d bytes", n, width, got)
			}
		}
	}
	for n := range 300 {
		blocks := (n + 127) / 128
		for _, v := range []int64{0, 1, -1, 63, 64, -64, -65, math.MaxInt64, math.MinInt64} {
			u := uint64(v) << 1
			if v < 0 {
				u = ^u
			}
			head := max(bits.Len64(u)+6, 7)/7 + 1
			if got := len(pack.Put(slices.Repeat([]int64{v}, n))); got != blocks*head {
				t.Fatalf("%d times %d: %d bytes", n, v, got)
			}
		}
	}
}
