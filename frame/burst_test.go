package frame_test

import (
	"bytes"
	"testing"

	"lectern/api"
	"lectern/frame"
)

// mostBurst is how many bits side by side a burst may lie within.
const mostBurst = 32

// turn turns those of the bits from a place on that a pattern has, its lowest bit first.
func turn(b []byte, at int, pattern uint32) {
	for i := range mostBurst {
		if pattern>>i&1 == 1 {
			b[(at+i)/8] ^= 1 << ((at + i) % 8)
		}
	}
}

// tells fails unless a file that is altered so opens as no kind that its bytes could be of.
func tells(t *testing.T, b []byte, at int, pattern uint32) {
	t.Helper()
	turn(b, at, pattern)
	kind, _ := frame.Kind(b)
	for _, k := range []byte{kind, 7} {
		if got, e := frame.Open(k, b); e != api.ErrCorrupt || len(got) > 0 {
			t.Fatalf("bits %b from bit %d on: Open(%d) of % x: %d sections, error %d", pattern, at, k, b[:min(len(b), 40)], len(got), e)
		}
	}
	turn(b, at, pattern)
}

// victims tells sealed files of the kind 7.
func victims(t *testing.T) [][]byte {
	x := dice(11)
	return [][]byte{
		seal(t, 7),
		seal(t, 7, nil),
		seal(t, 7, []byte{5, 6}, nil, []byte{7}),
		seal(t, 7, make([]byte, 30), bytes.Repeat([]byte{0xff}, 30)),
		seal(t, 7, x.bytes(150), x.bytes(9), nil),
		seal(t, 7, make([][]byte, 200)...),
	}
}

// TestBursts: P4.5: at each place, each burst of up to eight bits, and bursts of each length up to 32.
func TestBursts(t *testing.T) {
	x := dice(13)
	for _, b := range victims(t) {
		kept := bytes.Clone(b)
		for at := range 8 * len(b) {
			left := min(mostBurst, 8*len(b)-at)
			for pattern := uint32(1); pattern < 1<<min(8, left); pattern += 2 { // the first bit is altered: else it is a burst of a later place
				tells(t, b, at, pattern)
			}
			for size := 2; size <= left; size++ {
				ends := uint32(1)<<(size-1) | 1
				inner := ends - 2 // all bits ahead of the last one
				for _, pattern := range []uint32{ends, ends | inner, ends | inner&(uint32(x.below(1<<30))<<1)} {
					tells(t, b, at, pattern)
				}
			}
		}
		same(t, "the file, turned back", b, kept...)
	}
}

// TestAlteredBytes: each byte of a file, altered to each other one.
func TestAlteredBytes(t *testing.T) {
	for _, b := range victims(t) {
		for i := range b {
			for mask := uint32(1); mask < 256; mask++ {
				tells(t, b, 8*i, mask)
			}
		}
	}
}

// TestLongerBurst: the check's own pattern has 33 bits, of which the first 32 are told and all of them are not; so what the other tests alter is altered where they say.
func TestLongerBurst(t *testing.T) {
	const behindFirst = 0xedb88320
	b := seal(t, 7, make([]byte, 40))
	want := make([]byte, 40)
	at := 8*20 + 3
	turn(b, at+1, behindFirst)
	turn(b, at, 1)
	turn(want, at-8*6, 1) // six bytes stand ahead of the section
	turn(want, at-8*6+1, behindFirst)
	opens(t, 7, b, want)
	turn(b, at+32, 1)
	refused(t, "the same without its last bit", 7, b, api.ErrCorrupt)
}
