package frame_test

import (
	"hash/crc32"
	"testing"

	"lectern/frame"
)

// dice throws numbers by a rule of their own, the same ones each time.
type dice uint64

func (x *dice) below(n int) int {
	*x = *x*6364136223846793005 + 1442695040888963407
	return int(uint64(*x) >> 33 % uint64(n))
}

// bytes throws n bytes.
func (x *dice) bytes(n int) []byte {
	out := make([]byte, n)
	for i := range out {
		out[i] = byte(x.below(256))
	}
	return out
}

// checkOf tells the check of bytes as the chapter does, bit by bit.
func checkOf(b []byte) uint32 {
	n := uint32(0xffffffff)
	for i := range 8 * len(b) {
		bit := uint32(b[i/8]>>(i%8)) & 1
		if n&1 != bit {
			n = n>>1 ^ 0xedb88320
		} else {
			n >>= 1
		}
	}
	return ^n
}

// wantSum fails unless the parts have this check.
func wantSum(t *testing.T, want uint32, parts ...[]byte) {
	t.Helper()
	if got := frame.Sum(parts...); got != want {
		t.Errorf("Sum of %d parts: %08x, want %08x", len(parts), got, want)
	}
}

func TestSum(t *testing.T) {
	wantSum(t, 0xcbf43926, []byte("123456789"))
	wantSum(t, 0xcbf43926, []byte("1234"), nil, []byte("56789"), []byte{})
	wantSum(t, 0)
	wantSum(t, 0, nil)
	wantSum(t, 0, nil, []byte{}, nil)
	wantSum(t, 0xd202ef8d, []byte{0})
	wantSum(t, 0xff000000, []byte{0xff})
	wantSum(t, 0xffffffff, []byte{0xff, 0xff, 0xff, 0xff})
	wantSum(t, 0x2144df1c, []byte{0, 0, 0, 0})
	wantSum(t, 0xe8b7be43, []byte("a"))
	if frame.Sum([]byte("a"), []byte("b")) == frame.Sum([]byte("b"), []byte("a")) {
		t.Error("the parts' order tells nothing")
	}
}

// TestSumModel: each byte alone, each pair of bytes, and rows of all lengths, in whatever parts they come.
func TestSumModel(t *testing.T) {
	for a := range 256 {
		one := []byte{byte(a)}
		wantSum(t, checkOf(one), one)
		for b := range 256 {
			two := []byte{byte(a), byte(b)}
			wantSum(t, checkOf(two), two)
		}
	}
	x := dice(1)
	for n := range 600 {
		b := x.bytes(n)
		want := checkOf(b)
		if library := crc32.ChecksumIEEE(b); library != want {
			t.Fatalf("%d bytes: the models tell %08x and %08x", n, want, library)
		}
		wantSum(t, want, b)
		from, to := x.below(n+1), x.below(n+1)
		from, to = min(from, to), max(from, to)
		wantSum(t, want, b[:from], b[from:to], b[to:])
		var single [][]byte
		for i := range b {
			single = append(single, b[i:i+1])
		}
		wantSum(t, want, single...)
	}
	long := x.bytes(1 << 20)
	wantSum(t, crc32.ChecksumIEEE(long), long)
}

// TestSumKeeps: P4.6, for Sum.
func TestSumKeeps(t *testing.T) {
	a, b := []byte{1, 2, 3}, []byte{4, 5}
	parts := [][]byte{a, b}
	first := frame.Sum(parts...)
	same(t, "the first part", a, 1, 2, 3)
	same(t, "the second part", b, 4, 5)
	if again := frame.Sum(parts...); again != first {
		t.Errorf("Sum, again: %08x, was %08x", again, first)
	}
	a[0] = 9
	wantSum(t, checkOf([]byte{9, 2, 3, 4, 5}), parts...)
}
