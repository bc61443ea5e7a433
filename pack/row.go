package pack

import (
	"iter"
	"slices"

	"lectern/api"
	"lectern/codec"
)

// mostHead is how many bytes a block has at most ahead of the packed ones: those of a signed number, and one.
const mostHead = 11

// Put tells a row's form: P3.2.
func Put(l []int64) []byte {
	var out []byte
	for from, to := range blocks(len(l)) {
		out = append(out, blockForm(l[from:to])...)
	}
	return out
}

// Get reads the row of n numbers whose form b begins with, and tells how many bytes that is: P3.2.
func Get(b []byte, n int) ([]int64, int, api.Errno) {
	if !isLength(n) {
		return nil, 0, api.ErrArg
	}
	b = b[:min(len(b), mostBytes(n))] // a reader copies its bytes: not those that can't be the row's
	r := codec.NewReader(b)
	var out []int64
	for from, to := range blocks(n) {
		block, ok := readBlock(r, to-from)
		if !ok {
			return nil, 0, api.ErrCorrupt
		}
		out = append(out, block...)
	}
	return out, len(b) - r.Left(), api.OK
}

// blocks cuts a row of n numbers: it tells where each block begins and ends.
func blocks(n int) iter.Seq2[int, int] {
	return func(yield func(from, to int) bool) {
		for from := 0; from < n; from += api.BlockValues {
			if !yield(from, min(from+api.BlockValues, n)) {
				return
			}
		}
	}
}

// mostBytes tells how many bytes the form of a row of n numbers has at most.
func mostBytes(n int) int {
	heads := (n + api.BlockValues - 1) / api.BlockValues
	return heads*mostHead + packedBytes(n, mostWidth)
}

// blockForm tells the form of a block, which has a number at least.
func blockForm(block []int64) []byte {
	least := slices.Min(block)
	above := make([]uint64, len(block))
	for i, n := range block {
		above[i] = uint64(n) - uint64(least) // modulo 2^64: as int64 the difference may not fit
	}
	width := Width(above)
	out := append(codec.PutInt(nil, least), byte(width))
	return append(out, Bits(above, width)...)
}

// readBlock reads a block of n numbers, and tells whether what stands there is the form of one.
func readBlock(r *codec.Reader, n int) ([]int64, bool) {
	least, head := r.Int(), r.Bytes(1)
	if r.Err() != api.OK || head[0] > mostWidth {
		return nil, false
	}
	width := int(head[0])
	above, e := Unbits(r.Bytes(packedBytes(n, width)), width, n)
	if e != api.OK {
		return nil, false
	}
	block := make([]int64, n)
	for i, a := range above {
		block[i] = int64(uint64(least) + a)
	}
	// A sum that goes round is below the least number: then these numbers have another form.
	return block, slices.Min(block) == least && Width(above) == width
}
