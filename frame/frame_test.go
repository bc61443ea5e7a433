package frame_test

import (
	"bytes"
	"encoding/binary"
	"math"
	"strconv"
	"testing"

	"lectern/api"
	"lectern/frame"
)

// same fails unless an answer is these bytes.
func same(t *testing.T, what string, got []byte, want ...byte) {
	t.Helper()
	if !bytes.Equal(got, want) {
		t.Errorf("%s: % x of %d bytes, want % x of %d", what, got[:min(len(got), 40)], len(got), want[:min(len(want), 40)], len(want))
	}
}

// checked tells bytes with their check behind them, in new memory.
func checked(b ...byte) []byte {
	return binary.LittleEndian.AppendUint32(bytes.Clone(b), checkOf(b))
}

// body tells what a file has between its kind and its check, as the chapter does; the library's numbers are those of layer 2.
func body(sections ...[]byte) []byte {
	out := binary.AppendUvarint(nil, uint64(len(sections)))
	for _, s := range sections {
		out = binary.AppendUvarint(out, uint64(len(s)))
	}
	return append(out, bytes.Join(sections, nil)...)
}

// file tells a file of a kind that has this body, and its check.
func file(kind byte, body ...byte) []byte {
	return checked(append([]byte{0x4c, 0x54, 1, kind}, body...)...)
}

// seal tells a sealed file, which there must be.
func seal(t *testing.T, kind byte, sections ...[]byte) []byte {
	t.Helper()
	b, e := frame.Seal(kind, sections...)
	if e != api.OK {
		t.Fatalf("Seal(%d) of %d sections: error %d", kind, len(sections), e)
	}
	return b
}

// opens fails unless a file of that kind has just these sections.
func opens(t *testing.T, kind byte, data []byte, want ...[]byte) {
	t.Helper()
	got, e := frame.Open(kind, data)
	if e != api.OK || len(got) != len(want) {
		t.Errorf("Open(%d) of %d bytes: %d sections, error %d, want %d sections", kind, len(data), len(got), e, len(want))
		return
	}
	for i, s := range want {
		same(t, "section "+strconv.Itoa(i), got[i], s...)
	}
}

// refused fails unless Open answers this error and nothing else.
func refused(t *testing.T, what string, kind byte, data []byte, want api.Errno) {
	t.Helper()
	if got, e := frame.Open(kind, data); e != want || len(got) > 0 {
		t.Errorf("%s: Open(%d) of %d bytes: %d sections, error %d, want %d", what, kind, len(data), len(got), e, want)
	}
}

// long fails unless Seal answers ErrLong and nothing else.
func long(t *testing.T, what string, sections ...[]byte) {
	t.Helper()
	if b, e := frame.Seal(1, sections...); e != api.ErrLong || len(b) > 0 {
		t.Errorf("%s: Seal: %d bytes, error %d", what, len(b), e)
	}
}

// some tells rows of sections of many kinds.
func some() [][][]byte {
	x := dice(3)
	out := [][][]byte{nil, {nil}, {{}, nil}, {{5, 6}, {}, {7}}, {{0}}, {{0xff, 0, 0x80}}, {[]byte("LT\x01\x07\x00")}}
	for _, n := range []int{127, 128, 129, 16383, 16384, 70000} {
		out = append(out, [][]byte{x.bytes(n)}, [][]byte{nil, x.bytes(n), {1}})
	}
	for _, n := range []int{127, 128, 300, 1023, 1024} {
		out = append(out, make([][]byte, n))
	}
	for range 100 {
		l := make([][]byte, x.below(40))
		for i := range l {
			l[i] = x.bytes(x.below(3) * x.below(100))
		}
		out = append(out, l)
	}
	return out
}

func TestSeal(t *testing.T) {
	same(t, "Seal(7)", seal(t, 7), checked(0x4c, 0x54, 1, 7, 0)...)
	same(t, "Seal(1, (5 6), (), (7))", seal(t, 1, []byte{5, 6}, nil, []byte{7}), checked(0x4c, 0x54, 1, 1, 3, 2, 0, 1, 5, 6, 7)...)
	same(t, "the same, an empty one for none", seal(t, 1, []byte{5, 6}, []byte{}, []byte{7}), checked(0x4c, 0x54, 1, 1, 3, 2, 0, 1, 5, 6, 7)...)
	same(t, "one of no bytes", seal(t, 0, nil), checked(0x4c, 0x54, 1, 0, 1, 0)...)
	same(t, "numbers above 127", seal(t, 0xff, make([]byte, 300)), checked(append([]byte{0x4c, 0x54, 1, 0xff, 1, 0xac, 2}, make([]byte, 300)...)...)...)
	same(t, "the check, the lowest byte first", seal(t, 7)[5:], binary.LittleEndian.AppendUint32(nil, checkOf([]byte{0x4c, 0x54, 1, 7, 0}))...)
}

func TestSealModel(t *testing.T) {
	for i, l := range some() {
		same(t, "Seal", seal(t, byte(i), l...), file(byte(i), body(l...)...)...)
	}
}

// TestSealSections: the most sections that there may be, and one more.
func TestSealSections(t *testing.T) {
	one := []byte{9}
	l := make([][]byte, 1025)
	for i := range l {
		l[i] = one
	}
	b := seal(t, 3, l[:1024]...)
	same(t, "1024 sections", b, file(3, body(l[:1024]...)...)...)
	opens(t, 3, b, l[:1024]...)
	long(t, "1025 sections", l...)
	long(t, "1025 sections of nothing", make([][]byte, 1025)...)
	long(t, "2^20 sections", make([][]byte, 1<<20)...)
}

// TestSealLong: as many bytes as a file may have, and one more.
func TestSealLong(t *testing.T) {
	all := make([]byte, api.MaxFile+1)
	all[api.MaxFile-20] = 5
	// One section: four bytes, its number, its length of four bytes, and the check stand beside it.
	most := api.MaxFile - 4 - 1 - 4 - 4
	b := seal(t, 2, all[:most])
	if len(b) != api.MaxFile {
		t.Fatalf("%d bytes", len(b))
	}
	opens(t, 2, b, all[:most])
	long(t, "one byte more", all[:most+1])
	for more := range len(all) - most {
		long(t, "a section that is too long", all[:most+1+more])
	}
	// Two: their lengths have four bytes and one.
	b = seal(t, 2, all[:most-101], all[:100])
	if len(b) != api.MaxFile {
		t.Fatalf("%d bytes", len(b))
	}
	opens(t, 2, b, all[:most-101], all[:100])
	long(t, "one byte more in the first one", all[:most-100], all[:100])
	long(t, "one byte more in the second one", all[:most-101], all[:101])
	long(t, "one section more", all[:most-101], all[:100], nil)
	long(t, "one that is longer than a file", all)
	l := make([][]byte, 1024)
	for i := range l {
		l[i] = all[:1<<22]
	}
	long(t, "2^32 bytes in all", l...)
	long(t, "many sections, and bytes", append(l, nil)...)
}

func TestOpen(t *testing.T) {
	a, b := seal(t, 7), seal(t, 1, []byte{5, 6}, nil, []byte{7})
	opens(t, 7, a)
	opens(t, 1, b, []byte{5, 6}, nil, []byte{7})
	refused(t, "another kind", 8, a, api.ErrCorrupt)
	refused(t, "without its last byte", 7, a[:len(a)-1], api.ErrCorrupt)
	refused(t, "nothing", 7, nil, api.ErrCorrupt)
	refused(t, "no bytes", 0, []byte{}, api.ErrCorrupt)
	for kind := range 256 {
		if kind != 1 {
			refused(t, "another kind", byte(kind), b, api.ErrCorrupt)
		}
		opens(t, byte(kind), seal(t, byte(kind), []byte{1}), []byte{1})
	}
}

// TestOpenPieces: P4.3: no piece of a file is one, nor a file with bytes ahead or behind.
func TestOpenPieces(t *testing.T) {
	for _, l := range [][][]byte{nil, {nil}, {{5, 6}, {}, {7}}, {make([]byte, 200), {1}}} {
		b := seal(t, 4, l...)
		for from := range len(b) {
			for to := from; to <= len(b); to++ {
				if to-from < len(b) {
					refused(t, "a piece", 4, b[from:to], api.ErrCorrupt)
				}
			}
		}
		for _, c := range []byte{0, 1, 4, 0x4c, 0xff} {
			refused(t, "a byte behind", 4, append(bytes.Clone(b), c), api.ErrCorrupt)
			refused(t, "a byte ahead", 4, append([]byte{c}, b...), api.ErrCorrupt)
		}
		refused(t, "twice", 4, append(bytes.Clone(b), b...), api.ErrCorrupt)
	}
}

// TestOpenLong: more bytes than a file may have are told so first, whatever they are; just as many may be a file.
func TestOpenLong(t *testing.T) {
	refused(t, "zeros", 0, make([]byte, api.MaxFile+1), api.ErrLong)
	refused(t, "zeros, as many as there may be", 0, make([]byte, api.MaxFile), api.ErrCorrupt)
	whole := file(6, body(make([]byte, api.MaxFile-13))...)
	opens(t, 6, whole, make([]byte, api.MaxFile-13))
	refused(t, "one byte more", 6, append(whole, 0), api.ErrLong)
	refused(t, "one byte more, of another kind", 5, append(whole, 0), api.ErrLong)
	over := file(6, body(make([]byte, api.MaxFile-12))...)
	refused(t, "the form of a longer one", 6, over, api.ErrLong)
}

// TestOpenForms: bytes with the right check that are no sealed file.
func TestOpenForms(t *testing.T) {
	opens(t, 1, file(1, 3, 2, 0, 1, 5, 6, 7), []byte{5, 6}, nil, []byte{7})
	for what, b := range map[string][]byte{
		"no number of sections":              file(1),
		"a number that is cut":               file(1, 0x81),
		"a longer form of the number":        file(1, 0x83, 0, 2, 0, 1, 5, 6, 7),
		"a longer form of none":              file(1, 0x80, 0),
		"a longer form of a length":          file(1, 1, 0x82, 0, 5, 6),
		"a length missing":                   file(1, 1),
		"lengths missing":                    file(1, 3, 2),
		"a section missing":                  file(1, 1, 2),
		"a byte missing":                     file(1, 1, 2, 5),
		"a byte over":                        file(1, 1, 2, 5, 6, 7),
		"a byte over, of no sections":        file(1, 0, 0),
		"a length of 2^63":                   file(1, append([]byte{1}, binary.AppendUvarint(nil, 1<<63)...)...),
		"the greatest length":                file(1, append([]byte{1}, binary.AppendUvarint(nil, math.MaxUint64)...)...),
		"lengths that go round 2^64":         file(1, append(append([]byte{2}, binary.AppendUvarint(nil, math.MaxUint64)...), 3, 5, 6)...),
		"a length beyond 64 bits":            file(1, append([]byte{1}, 0xff, 0xff, 0xff, 0xff, 0xff, 0xff, 0xff, 0xff, 0xff, 2)...),
		"the greatest number":                file(1, binary.AppendUvarint(nil, math.MaxUint64)...),
		"a number of 2^32":                   file(1, binary.AppendUvarint(nil, 1<<32)...),
		"1025 sections":                      file(1, body(make([][]byte, 1025)...)...),
		"no kind":                            checked(0x4c, 0x54, 1),
		"the check alone":                    checked(),
		"the check of the bytes without one": {0x4c, 0x54, 1, 1, 0, 0, 0, 0, 0},
	} {
		refused(t, what, 1, b, api.ErrCorrupt)
	}
	b := file(1, 0)
	last := b[5:]
	refused(t, "the check, the greatest byte first", 1, append(b[:5:5], last[3], last[2], last[1], last[0]), api.ErrCorrupt)
	for i := range 4 {
		c := bytes.Clone(b)
		c[5+i]++
		refused(t, "a byte of the check", 1, c, api.ErrCorrupt)
	}
	refused(t, "the check of the body alone", 1, append([]byte{0x4c, 0x54, 1, 1}, checked(0)...), api.ErrCorrupt)
}

// TestOpenMark: what begins in another way is no file of any kind.
func TestOpenMark(t *testing.T) {
	for kind := range 256 {
		for i := range 24 {
			b := []byte{0x4c, 0x54, 1, byte(kind), 0}
			b[i/8] ^= 1 << (i % 8)
			refused(t, "another beginning", byte(kind), checked(b...), api.ErrCorrupt)
			refused(t, "another beginning, kind 0", 0, checked(b...), api.ErrCorrupt)
		}
	}
}

// TestOpenKindInCheck: the kind may not be a byte of the check, though that is the right one.
func TestOpenKindInCheck(t *testing.T) {
	for n := range 4 {
		b := checked([]byte{0x4c, 0x54, 1}[:n]...)
		for kind := range 256 {
			refused(t, "the check of the first bytes", byte(kind), b, api.ErrCorrupt)
		}
	}
	b := checked(0x4c, 0x54, 1)
	if k, ok := frame.Kind(b); k != b[3] || !ok {
		t.Errorf("Kind of % x: %d, %t", b, k, ok)
	}
}

func TestKind(t *testing.T) {
	for kind := range 256 {
		for _, b := range [][]byte{seal(t, byte(kind), []byte{1, 2}), {0x4c, 0x54, 1, byte(kind)}, {0x4c, 0x54, 1, byte(kind), 0xff}} {
			if k, ok := frame.Kind(b); k != byte(kind) || !ok {
				t.Errorf("Kind of % x: %d, %t", b, k, ok)
			}
		}
	}
	for _, b := range [][]byte{nil, {}, {0x4c}, {0x4c, 0x54}, {0x4c, 0x54, 1}, {0x54, 0x4c, 1, 7}, {0x4c, 0x54, 0, 7}, {0x4c, 0x54, 2, 7}, {0x4c, 0x55, 1, 7, 0}, {0, 0x4c, 0x54, 1, 7}, {7, 7, 7, 7}} {
		if k, ok := frame.Kind(b); k != 0 || ok {
			t.Errorf("Kind of % x: %d, %t", b, k, ok)
		}
	}
	for i := range 24 {
		b := []byte{0x4c, 0x54, 1, 7}
		b[i/8] ^= 1 << (i % 8)
		if k, ok := frame.Kind(b); k != 0 || ok {
			t.Errorf("Kind of % x: %d, %t", b, k, ok)
		}
	}
	// A file is not asked for its check, nor for its length.
	whole := make([]byte, api.MaxFile+1)
	copy(whole, []byte{0x4c, 0x54, 1, 9})
	if k, ok := frame.Kind(whole); k != 9 || !ok {
		t.Errorf("Kind of a file that is too long: %d, %t", k, ok)
	}
}

// TestRoundTrip: P4.4: what was sealed opens as it was.
func TestRoundTrip(t *testing.T) {
	for i, l := range some() {
		opens(t, byte(i), seal(t, byte(i), l...), l...)
	}
}

// resealed fails if some bytes open, but their sections are not sealed as these bytes; it tells whether they open.
func resealed(t *testing.T, kind byte, b []byte) bool {
	t.Helper()
	l, e := frame.Open(kind, b)
	if e != api.OK {
		return false
	}
	same(t, "what was opened, sealed", seal(t, kind, l...), b...)
	return true
}

// TestOneForm: P4.4: of all short bodies under a right check, those that open are the bodies of what they open as.
func TestOneForm(t *testing.T) {
	count := 0
	try := func(b ...byte) {
		if resealed(t, 5, file(5, b...)) {
			count++
		}
	}
	for a := range 256 {
		try(byte(a))
		for b := range 256 {
			try(byte(a), byte(b))
		}
	}
	for i := range 7 * 7 * 7 * 7 * 7 {
		few := [...]byte{0, 1, 2, 3, 0x80, 0x81, 0xff}
		try(few[i%7], few[i/7%7], few[i/49%7], few[i/343%7], few[i/2401])
	}
	// Of one byte: 0. Of two: 1 0. Of five: 1 3 and three bytes; 2, two lengths that come to 2, and two bytes; 3, three lengths that come to 1, and one byte.
	if want := 1 + 1 + 7*7*7 + 3*7*7 + 3*7; count != want {
		t.Errorf("%d bodies open, want %d", count, want)
	}
}

// TestAnyBytes: P1, P4.4: whatever stands there, under a right check or not, no call panics, and what opens has one form.
func TestAnyBytes(t *testing.T) {
	x := dice(7)
	for range 20000 {
		b := x.bytes(x.below(12))
		for i := range b {
			if x.below(3) > 0 {
				b[i] = byte(x.below(4))
			}
		}
		frame.Kind(b)
		frame.Sum(b, nil, b)
		resealed(t, byte(x.below(4)), b)
		resealed(t, 1, append([]byte{0x4c, 0x54, 1, 1}, b...))
		resealed(t, 1, checked(append([]byte{0x4c, 0x54, 1, 1}, b...)...))
	}
}

// TestSealKeeps: P4.6, for Seal.
func TestSealKeeps(t *testing.T) {
	room := []byte{1, 2, 3, 4, 5, 6}
	l := make([][]byte, 2, 4)
	l[0], l[1] = room[:2], room[1:4]
	b := seal(t, 9, l...)
	kept := bytes.Clone(b)
	same(t, "what was sealed", room, 1, 2, 3, 4, 5, 6)
	if more := l[:4]; more[2] != nil || more[3] != nil {
		t.Error("something was put behind the sections")
	}
	room[0], room[3] = 9, 9
	same(t, "the file, when what was sealed has changed", b, kept...)
	again := seal(t, 9, l...)
	for i := range b {
		b[i] = 0
	}
	same(t, "the sections, when the file has changed", room, 9, 2, 3, 9, 5, 6)
	same(t, "another file", again, file(9, 2, 2, 3, 9, 2, 2, 3, 9)...)
	same(t, "sealed again", seal(t, 9, l...), again...)
}

// TestOpenKeeps: P4.6, for Open: its sections share nothing with the file, nor with each other.
func TestOpenKeeps(t *testing.T) {
	b := seal(t, 9, []byte{1, 2}, nil, []byte{3}, []byte{4, 5})
	kept := bytes.Clone(b)
	got, _ := frame.Open(9, b)
	again, _ := frame.Open(9, b)
	same(t, "the file", b, kept...)
	for i, s := range got {
		for j := range s {
			s[j] = 0xee
		}
		got[i] = append(s, 0xdd, 0xdd, 0xdd, 0xdd)
	}
	same(t, "the file, when its sections have changed", b, kept...)
	for i, want := range [][]byte{{0xee, 0xee}, {}, {0xee}, {0xee, 0xee}} {
		same(t, "a section, when others were appended to", got[i], append(want, 0xdd, 0xdd, 0xdd, 0xdd)...)
	}
	for i := range b {
		b[i] = 0
	}
	for i, want := range [][]byte{{1, 2}, {}, {3}, {4, 5}} {
		same(t, "a section of another Open", again[i], want...)
	}
	opens(t, 9, kept, []byte{1, 2}, nil, []byte{3}, []byte{4, 5})
}
