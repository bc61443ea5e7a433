package pack_test

import (
	"bytes"
	"encoding/binary"
	"math"
	"slices"
	"testing"

	"lectern/api"
	"lectern/pack"
)

// rowForm tells a row's form as the chapter does; the library's signed numbers are those of layer 2.
func rowForm(l []int64) []byte {
	var out []byte
	for len(l) > 0 {
		block := l[:min(128, len(l))]
		l = l[len(block):]
		least := slices.Min(block)
		var above []uint64
		greatest := uint64(0)
		for _, n := range block {
			above = append(above, uint64(n)-uint64(least))
			greatest = max(greatest, uint64(n)-uint64(least))
		}
		width := 0
		for width < 64 && greatest>>width > 0 {
			width++
		}
		out = append(binary.AppendVarint(out, least), byte(width))
		out = append(out, packed(above, width)...)
	}
	return out
}

// rowOf tells the row of n numbers whose form b begins with, if there is one: it takes the numbers off in any form, and holds theirs against b.
func rowOf(b []byte, n int) ([]int64, int, bool) {
	var out []int64
	for left := b; len(out) < n; {
		size := min(128, n-len(out))
		least, k := binary.Varint(left)
		if k <= 0 || k >= len(left) || left[k] > 64 {
			return nil, 0, false
		}
		width := int(left[k])
		left = left[k+1:]
		if 8*len(left) < size*width {
			return nil, 0, false
		}
		for i := range size {
			v := uint64(least)
			for j := range width {
				at := i*width + j
				v += uint64(left[at/8]>>(at%8)&1) << j
			}
			out = append(out, int64(v))
		}
		left = left[(size*width+7)/8:]
	}
	form := rowForm(out)
	if !bytes.HasPrefix(b, form) {
		return nil, 0, false
	}
	return out, len(form), true
}

// reads fails unless Get answers this row of the whole of b but so many bytes.
func reads(t *testing.T, b []byte, behind int, want ...int64) {
	t.Helper()
	got, k, e := pack.Get(b, len(want))
	if e != api.OK || k != len(b)-behind || !slices.Equal(got, want) {
		t.Errorf("Get of %d bytes, % x: %d numbers, %v, %d, error %d, want %d and %v", len(b), b[:min(len(b), 20)], len(got), got[:min(len(got), 9)], k, e, len(b)-behind, want[:min(len(want), 9)])
	}
}

// fails fails unless Get answers this error and nothing else.
func fails(t *testing.T, b []byte, n int, want api.Errno) {
	t.Helper()
	if got, k, e := pack.Get(b, n); e != want || len(got) > 0 || k != 0 {
		t.Errorf("Get of %d bytes, % x, %d: %d numbers, %d, error %d, want %d", len(b), b[:min(len(b), 20)], n, len(got), k, e, want)
	}
}

// rows are rows of many kinds: of lengths at the blocks' edges, of few bits and many, far from 0 and near.
func rows() [][]int64 {
	x := dice(5)
	out := [][]int64{nil, {math.MinInt64, math.MaxInt64}, {math.MaxInt64, math.MinInt64}, {math.MinInt64}, {math.MaxInt64}, {math.MinInt64, -1}, {math.MinInt64, 0}, {0, math.MaxInt64}, {-1, math.MaxInt64}, {-1, 0, 1}}
	for _, n := range []int{1, 2, 3, 8, 100, 127, 128, 129, 255, 256, 257, 300, 384, 1000} {
		for width := range 65 {
			l := make([]int64, n)
			from := int64(x.throw()) >> x.below(64)
			for i, u := range x.numbers(n, width) {
				l[i] = from + int64(u)
			}
			out = append(out, l)
		}
	}
	return out
}

func TestPut(t *testing.T) {
	same(t, "Put of 7 7 7", pack.Put([]int64{7, 7, 7}), 0x0e, 0)
	same(t, "Put of -1 2", pack.Put([]int64{-1, 2}), 1, 2, 0x0c)
	same(t, "Put of nothing", pack.Put(nil))
	same(t, "Put of none", pack.Put([]int64{}))
	same(t, "Put of 0", pack.Put([]int64{0}), 0, 0)
	same(t, "Put of 2 -1", pack.Put([]int64{2, -1}), 1, 2, 3)
	same(t, "Put of 300", pack.Put([]int64{300}), 0xd8, 4, 0)
	whole := append(bytes.Repeat([]byte{0xff}, 9), 1, 64, 0, 0, 0, 0, 0, 0, 0, 0)
	same(t, "Put of the least and the greatest", pack.Put([]int64{math.MinInt64, math.MaxInt64}), append(whole, bytes.Repeat([]byte{0xff}, 8)...)...)
}

// TestPutBlocks: each block goes from its own least number on, at its own width.
func TestPutBlocks(t *testing.T) {
	l := slices.Repeat([]int64{5}, 127)
	same(t, "127", pack.Put(l), 10, 0)
	l = append(l, 5)
	same(t, "128", pack.Put(l), 10, 0)
	l = append(l, 9)
	same(t, "129", pack.Put(l), 10, 0, 18, 0)
	l = append(l, 8)
	same(t, "130", pack.Put(l), 10, 0, 16, 1, 1)
	l[127] = 6
	b := append([]byte{10, 1}, make([]byte, 16)...)
	b[17] = 0x80
	same(t, "130, of which 128 are not the same", pack.Put(l), append(b, 16, 1, 1)...)
}

func TestPutModel(t *testing.T) {
	for _, l := range rows() {
		same(t, "Put", pack.Put(l), rowForm(l)...)
	}
}

func TestGet(t *testing.T) {
	reads(t, []byte{0x0e, 0}, 0, 7, 7, 7)
	reads(t, []byte{1, 2, 0x0c, 0x99}, 1, -1, 2)
	reads(t, []byte{0x0e, 0}, 2)
	reads(t, nil, 0)
	reads(t, []byte{0xff, 0x41}, 2)
	fails(t, []byte{0x0e, 0x41}, 3, api.ErrCorrupt)
	fails(t, []byte{0x0e}, 3, api.ErrCorrupt)
	fails(t, []byte{1, 3, 0x18}, 2, api.ErrCorrupt)
	fails(t, []byte{0, 1, 3}, 2, api.ErrCorrupt)
}

// TestGetCorrupt: each way in which a block can be none.
func TestGetCorrupt(t *testing.T) {
	for what, x := range map[string]struct {
		b []byte
		n int
	}{
		"nothing":                    {nil, 1},
		"a number that is cut":       {[]byte{0x80}, 1},
		"a number that is too long":  {[]byte{0x80, 0, 0}, 1},
		"a number beyond 64 bits":    {append(bytes.Repeat([]byte{0xff}, 9), 2, 0), 1},
		"a number of 11 bytes":       {append(bytes.Repeat([]byte{0x80}, 10), 1, 0), 1},
		"a width of 65":              {append([]byte{0, 65}, make([]byte, 999)...), 1},
		"a width of 255":             {append([]byte{0, 255}, make([]byte, 999)...), 1},
		"no width":                   {[]byte{0x80, 1}, 1},
		"no packed bytes":            {[]byte{0, 1}, 2},
		"too few packed bytes":       {[]byte{0, 8, 0}, 2},
		"a bit behind the last one":  {[]byte{0, 1, 6}, 2},
		"the highest bit behind":     {[]byte{0, 1, 0x82}, 2},
		"none at the least number":   {[]byte{0, 2, 9}, 2},
		"a width that is too great":  {[]byte{0, 2, 4, 0}, 3},
		"a width of 1 of the same":   {[]byte{14, 1, 0}, 3},
		"a width of 64 of the same":  {append([]byte{0, 64}, make([]byte, 8)...), 1},
		"one number above the least": {[]byte{0, 1, 1}, 1},
		"no second block":            {[]byte{0, 0}, 129},
		"a second block cut":         {[]byte{0, 0, 0}, 129},
		"a second width too great":   {[]byte{0, 0, 0, 1, 0}, 129},
	} {
		if got, k, e := pack.Get(x.b, x.n); e != api.ErrCorrupt || len(got) > 0 || k != 0 {
			t.Errorf("%s: %v, %d, error %d", what, got, k, e)
		}
	}
}

// TestGetRound: numbers that go round are below the least one; such a block is not their form.
func TestGetRound(t *testing.T) {
	round := func(least int64, above ...uint64) []byte {
		width := pack.Width(above)
		return append(append(binary.AppendVarint(nil, least), byte(width)), pack.Bits(above, width)...)
	}
	fails(t, round(math.MaxInt64, 0, 1), 2, api.ErrCorrupt)
	fails(t, round(0, 0, 1<<63), 2, api.ErrCorrupt)
	fails(t, round(1, 0, math.MaxUint64), 2, api.ErrCorrupt)
	fails(t, round(math.MinInt64+1, 0, math.MaxUint64), 2, api.ErrCorrupt)
	fails(t, round(math.MinInt64+1, 0, math.MaxUint64-1, math.MaxUint64), 3, api.ErrCorrupt)
	reads(t, round(math.MaxInt64-1, 0, 1), 0, math.MaxInt64-1, math.MaxInt64)
	reads(t, round(0, 0, 1<<63-1), 0, 0, math.MaxInt64)
	reads(t, round(math.MinInt64, 0, math.MaxUint64), 0, math.MinInt64, math.MaxInt64)
	reads(t, round(math.MinInt64+1, 0, math.MaxUint64-1), 0, math.MinInt64+1, math.MaxInt64)
}

// TestGetArg: ErrArg goes ahead of ErrCorrupt; what stands in the bytes does not matter.
func TestGetArg(t *testing.T) {
	for _, n := range []int{-1, -128, math.MinInt, most + 1, math.MaxInt, math.MaxInt - 127, math.MaxInt32} {
		for _, b := range [][]byte{nil, {0x0e, 0}, {0x0e, 0x41}, bytes.Repeat([]byte{0x0e, 0}, 9000)} {
			fails(t, b, n, api.ErrArg)
		}
	}
	fails(t, []byte{0, 0}, most, api.ErrCorrupt)
}

// TestGetMost: as many numbers as may be read at once, of the longest form.
func TestGetMost(t *testing.T) {
	l := make([]int64, most)
	for i := range l {
		l[i] = []int64{math.MaxInt64, math.MinInt64}[i%2]
	}
	b := pack.Put(l)
	if len(b) != most/128*11+8*most {
		t.Errorf("%d bytes", len(b))
	}
	reads(t, b, 0, l...)
	reads(t, append(b, 1, 2, 3), 3, l...)
	fails(t, b[:len(b)-1], most, api.ErrCorrupt)
	fails(t, pack.Put(append(l, 0)), most+1, api.ErrArg)
}

// TestGetOfPut is of P3.3: whatever stands behind.
func TestGetOfPut(t *testing.T) {
	for _, l := range rows() {
		b := pack.Put(l)
		reads(t, b, 0, l...)
		for _, behind := range [][]byte{{0}, {0xff}, {0x80, 0x80}, {0, 0, 0, 0}, bytes.Repeat([]byte{0xff}, 5000)} {
			reads(t, slices.Concat(b, behind), len(behind), l...)
		}
	}
}

// TestGetCut: a form that is cut anywhere is none.
func TestGetCut(t *testing.T) {
	for _, l := range rows() {
		if len(l) > 130 {
			continue
		}
		b := pack.Put(l)
		for i := range b {
			fails(t, b[:i], len(l), api.ErrCorrupt)
		}
	}
}

// alike fails unless Get tells of these bytes what the model does.
func alike(t *testing.T, b []byte, n int) {
	t.Helper()
	want, size, ok := rowOf(b, n)
	got, k, e := pack.Get(b, n)
	if ok != (e == api.OK) || !ok && e != api.ErrCorrupt || k != size || !slices.Equal(got, want) {
		t.Fatalf("Get of % x, %d: %v, %d, error %d, want %v, %d", b[:min(len(b), 20)], n, got, k, e, want, size)
	}
	if ok && !bytes.Equal(pack.Put(got), b[:k]) {
		t.Fatalf("Get of % x, %d: %v has another form", b[:min(len(b), 20)], n, got)
	}
}

// TestOneForm: what Get reads is what Put writes, of all short rows of bytes.
func TestOneForm(t *testing.T) {
	for _, n := range []int{0, 1, 2, 3, 5, 16} {
		alike(t, nil, n)
		for i := range 1 << 8 {
			alike(t, []byte{byte(i)}, n)
		}
		for i := range 1 << 16 {
			alike(t, []byte{byte(i), byte(i >> 8)}, n)
		}
		for i := range 1 << 16 { // at the widths that so few bytes have room for
			for _, width := range []byte{1, 2, 3, 5, 8} {
				alike(t, []byte{0, width, byte(i), byte(i >> 8)}, n)
			}
		}
	}
}

// TestFlipped: a form with one bit turned is another row's, or none.
func TestFlipped(t *testing.T) {
	for _, l := range rows() {
		if len(l) > 3 && len(l) != 129 {
			continue
		}
		b := pack.Put(l)
		for i := range 8 * len(b) {
			if len(l) > 3 && i > 40 && i%61 > 0 {
				continue
			}
			b[i/8] ^= 1 << (i % 8)
			alike(t, b, len(l))
			b[i/8] ^= 1 << (i % 8)
		}
	}
}

// TestMemory is of P3.5.
func TestMemory(t *testing.T) {
	numbers, row := []uint64{5, 0, 3, 9}, []int64{-1, 2, 4, 9}
	one := pack.Bits(numbers[:3], 3)
	two := pack.Put(row[:2])
	pack.Width(numbers[:3])
	if !slices.Equal(numbers, []uint64{5, 0, 3, 9}) || !slices.Equal(row, []int64{-1, 2, 4, 9}) {
		t.Errorf("what was handed in is %v, %v", numbers, row)
	}
	numbers[0], row[0] = 7, 7
	same(t, "Bits", one, 0xc5, 0)
	same(t, "Put", two, 1, 2, 0x0c)
	one[0], two[0] = 9, 9
	same(t, "Bits once more", pack.Bits([]uint64{5, 0, 3}, 3), 0xc5, 0)
	same(t, "Put once more", pack.Put([]int64{-1, 2}), 1, 2, 0x0c)

	b := []byte{1, 2, 0x0c, 0x99}
	l, _, _ := pack.Get(b[:3], 2)
	m, _, _ := pack.Get(b[:3], 2)
	u, _ := pack.Unbits(b[:3], 8, 3)
	l[0] = 9
	same(t, "what was handed in", b, 1, 2, 0x0c, 0x99)
	b[0], b[2] = 7, 0
	if !slices.Equal(l, []int64{9, 2}) || !slices.Equal(m, []int64{-1, 2}) || !slices.Equal(u, []uint64{1, 2, 0x0c}) {
		t.Errorf("what was told is %v, %v, %v", l, m, u)
	}
}
