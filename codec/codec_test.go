package codec_test

import (
	"bytes"
	"encoding/binary"
	"math"
	"strconv"
	"strings"
	"testing"

	"lectern/api"
	"lectern/codec"
)

// same fails unless an answer is these bytes.
func same(t *testing.T, what string, got []byte, want ...byte) {
	t.Helper()
	if !bytes.Equal(got, want) {
		t.Errorf("%s: % x of %d bytes, want % x", what, got[:min(len(got), 40)], len(got), want[:min(len(want), 40)])
	}
}

// nines are nine bytes ff, and another one behind them.
func nines(last byte) []byte {
	return append(bytes.Repeat([]byte{0xff}, 9), last)
}

// edges are the numbers of one bit, and those beside them.
func edges() []uint64 {
	var out []uint64
	for i := range 64 {
		out = append(out, 1<<i-1, 1<<i, 1<<i+1)
	}
	return append(out, math.MaxUint64, math.MaxUint64-1, 300)
}

func TestPutUint(t *testing.T) {
	same(t, "PutUint 0", codec.PutUint(nil, 0), 0)
	same(t, "PutUint 127", codec.PutUint(nil, 127), 0x7f)
	same(t, "PutUint 128", codec.PutUint(nil, 128), 0x80, 1)
	same(t, "PutUint 300", codec.PutUint(nil, 300), 0xac, 2)
	same(t, "PutUint 2^63", codec.PutUint(nil, 1<<63), append(bytes.Repeat([]byte{0x80}, 9), 1)...)
	same(t, "PutUint 2^64 - 1", codec.PutUint(nil, math.MaxUint64), nines(1)...)
	for _, n := range edges() {
		// The library's own form of such numbers is the same one.
		same(t, "PutUint "+strconv.FormatUint(n, 10), codec.PutUint([]byte{9, 0xff}, n), binary.AppendUvarint([]byte{9, 0xff}, n)...)
	}
}

func TestPutInt(t *testing.T) {
	same(t, "PutInt 0", codec.PutInt(nil, 0), 0)
	same(t, "PutInt -1", codec.PutInt(nil, -1), 1)
	same(t, "PutInt 1", codec.PutInt(nil, 1), 2)
	same(t, "PutInt -64", codec.PutInt(nil, -64), 0x7f)
	same(t, "PutInt 64", codec.PutInt(nil, 64), 0x80, 1)
	same(t, "PutInt, the least", codec.PutInt(nil, math.MinInt64), nines(1)...)
	same(t, "PutInt, the greatest", codec.PutInt(nil, math.MaxInt64), append([]byte{0xfe}, nines(1)[1:]...)...)
	for _, u := range edges() {
		for _, n := range []int64{int64(u), -int64(u)} {
			same(t, "PutInt "+strconv.FormatInt(n, 10), codec.PutInt([]byte{9, 0xff}, n), binary.AppendVarint([]byte{9, 0xff}, n)...)
		}
	}
}

func TestPutText(t *testing.T) {
	same(t, "PutText ab", codec.PutText([]byte{9}, "ab"), 9, 2, 'a', 'b')
	same(t, "PutText of nothing", codec.PutText([]byte{9}, ""), 9, 0)
	same(t, "PutText of any bytes", codec.PutText(nil, "\x00\xff\x80"), 3, 0, 0xff, 0x80)
	for _, n := range []int{127, 128, 16383, 16384, 70000} {
		s := strings.Repeat("x", n)
		same(t, "PutText of "+strconv.Itoa(n), codec.PutText([]byte{1}, s), append(binary.AppendUvarint([]byte{1}, uint64(n)), s...)...)
	}
}

// puts are the three that put, each a thing whose form has some bytes.
func puts() map[string]func(b []byte) []byte {
	return map[string]func(b []byte) []byte{
		"PutUint": func(b []byte) []byte { return codec.PutUint(b, math.MaxUint64) },
		"PutInt":  func(b []byte) []byte { return codec.PutInt(b, -300) },
		"PutText": func(b []byte) []byte { return codec.PutText(b, "abc") },
	}
}

// TestPutMemory: P2.5, for what is put.
func TestPutMemory(t *testing.T) {
	for name, put := range puts() {
		room := bytes.Repeat([]byte{7}, 40)
		b := room[:2]
		first := put(b)
		same(t, name+" leaves what stands behind b", room, bytes.Repeat([]byte{7}, 40)...)
		second := put(b)
		kept := bytes.Clone(second)
		for i := range first {
			first[i]++
		}
		for _, more := range [][]byte{put(second), put(second)} {
			same(t, name+" keeps b", more[:len(kept)], kept...)
		}
		same(t, name+" has new memory each time", second, kept...)
		same(t, name+" leaves b", b, 7, 7)
		for i := range b {
			b[i] = 8
		}
		same(t, name+" does not keep b", second, kept...)

		// There may be room behind what is answered: two that are put there must not meet.
		one, two := codec.PutUint(second, 1), codec.PutUint(second, 2)
		if one[len(one)-1] != 1 || two[len(two)-1] != 2 {
			t.Errorf("%s: what is put behind its answer shares memory", name)
		}
	}
}

// TestPutBehind: whatever b is, its bytes stand ahead.
func TestPutBehind(t *testing.T) {
	for name, put := range puts() {
		form := put(nil)
		for _, b := range [][]byte{nil, {}, {0x80}, bytes.Repeat([]byte{0xff}, 300)} {
			same(t, name, put(b), append(bytes.Clone(b), form...)...)
		}
	}
}

// TestForms: P2.3: two numbers have two forms, and none begins another one.
func TestForms(t *testing.T) {
	seen := map[string]uint64{}
	for _, n := range append(edges(), 2, 3, 200, 255, 1000) {
		seen[string(codec.PutUint(nil, n))] = n
	}
	for a, n := range seen {
		for b, m := range seen {
			if n != m && strings.HasPrefix(a, b) {
				t.Errorf("the form of %d begins that of %d", m, n)
			}
		}
	}
}

// wantErr fails unless a reader has that error and so many bytes left.
func wantErr(t *testing.T, what string, r *codec.Reader, e api.Errno, left int) {
	t.Helper()
	if r.Err() != e || r.Left() != left {
		t.Errorf("%s: error %d, %d left, want %d, %d", what, r.Err(), r.Left(), e, left)
	}
}
