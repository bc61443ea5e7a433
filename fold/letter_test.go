package fold_test

import (
	"math"
	"testing"

	"lectern/fold"
)

// eachNumber hands all runes, and numbers that are none, to a call.
func eachNumber(do func(r rune)) {
	for n := -0x120000; n < 0x220000; n++ {
		do(rune(n))
	}
	for _, base := range []int64{math.MinInt32, -1 << 24, 1 << 24, 1 << 30, math.MaxInt32} {
		for n := max(base-0x600, math.MinInt32); n <= min(base+0x600, math.MaxInt32); n++ {
			do(rune(n))
		}
	}
	// Runes that are told apart by their low bits alone would come up here again.
	for high := range 1 << 11 {
		for _, low := range []int{0x30, 0x41, 0x61, 0xc0, 0x100, 0x139, 0x178, 0x301, 0x386, 0x400, 0x4c0, 0x660, 0x4e2d} {
			do(rune(int32(high<<21 | low)))
		}
	}
}

func TestLower(t *testing.T) {
	for _, x := range []struct{ r, want rune }{
		{'A', 'a'}, {'Z', 'z'}, {'@', '@'}, {'[', '['}, {'a', 'a'}, {'7', '7'}, {0, 0},
		{'É', 'é'}, {'Þ', 'þ'}, {0xd7, 0xd7}, {0xdf, 0xdf}, {0xf7, 0xf7},
		{0x416, 0x436}, {0x3a9, 0x3c9}, {0x178, 0xff}, {0x100, 0x101}, {0x101, 0x101},
		{0x130, 0x130}, {0x131, 0x131}, {0x132, 0x133}, {0x136, 0x137}, {0x137, 0x137}, {0x138, 0x138}, {0x139, 0x13a}, {0x13a, 0x13a},
		{0x147, 0x148}, {0x149, 0x149}, {0x14a, 0x14b}, {0x176, 0x177}, {0x179, 0x17a}, {0x17d, 0x17e}, {0x17f, 0x17f}, {0x180, 0x180},
		{0x386, 0x3ac}, {0x388, 0x3ad}, {0x38a, 0x3af}, {0x38b, 0x38b}, {0x38c, 0x3cc}, {0x38d, 0x38d}, {0x38e, 0x3cd}, {0x38f, 0x3ce}, {0x390, 0x390},
		{0x391, 0x3b1}, {0x3a2, 0x3a2}, {0x3ab, 0x3cb}, {0x3ac, 0x3ac}, {0x3e2, 0x3e2},
		{0x400, 0x450}, {0x40f, 0x45f}, {0x410, 0x430}, {0x42f, 0x44f}, {0x430, 0x430}, {0x460, 0x461}, {0x480, 0x481}, {0x482, 0x482},
		{0x48a, 0x48b}, {0x4be, 0x4bf}, {0x4c0, 0x4cf}, {0x4c1, 0x4c2}, {0x4cd, 0x4ce}, {0x4cf, 0x4cf}, {0x4d0, 0x4d1}, {0x52e, 0x52f}, {0x530, 0x530},
		{0x1e9e, 0x1e9e}, {0xff21, 0xff21}, {0x10400, 0x10400}, {0xfffd, 0xfffd}, {0xd800, 0xd800}, {0x110000, 0x110000},
		{-1, -1}, {-2, -2}, {math.MinInt32, math.MinInt32}, {math.MaxInt32, math.MaxInt32},
	} {
		if got := fold.Lower(x.r); got != x.want {
			t.Errorf("Lower(%x) = %x, want %x", x.r, got, x.want)
		}
	}
}

func TestLetter(t *testing.T) {
	wants := func(what string, is func(rune) bool, want bool, l ...rune) {
		t.Helper()
		for _, r := range l {
			if is(r) != want {
				t.Errorf("%s(%x) = %t", what, r, !want)
			}
		}
	}
	wants("Letter", fold.Letter, true, 'A', 'Z', 'a', 'z', 0xaa, 0xb5, 0xba, 0xc0, 'é', 0x2af, 0x370, 0x37f, 0x3ff, 0x481, 0x48a, 0x52f, 0x5ea, 0x64a, 0x939, 0x3096, 0x30a1, 0x4e00, 0x4e2d, 0x9fff, 0xac00, 0xd7a3)
	wants("Letter", fold.Letter, false, '5', '@', '[', '`', '{', '_', ' ', 0, 0xd7, 0xf7, 0x2b0, 0x301, 0x378, 0x3a2, 0x3f6, 0x482, 0x489, 0x530, 0x3097, 0x3400, 0xa000, 0xd7a4, 0xd800, 0xfffd, 0x20000, 0x110000, -1, math.MinInt32, math.MaxInt32)
	wants("Digit", fold.Digit, true, '0', '5', '9', 0x660, 0x665, 0x669, 0x966, 0x96f, 0xff10, 0xff19)
	wants("Digit", fold.Digit, false, '/', ':', 'a', 0xb2, 0x65f, 0x66a, 0x965, 0x970, 0xff0f, 0xff1a, 0x110000, -1, math.MinInt32, math.MaxInt32)
	wants("Mark", fold.Mark, true, 0x300, 0x301, 0x36f, 0x483, 0x489, 0x591, 0x5bd, 0x64b, 0x65f, 0x93c, 0x20d0, 0x20f0, 0xfe20, 0xfe2f)
	wants("Mark", fold.Mark, false, 'a', '5', 0x2ff, 0x370, 0x482, 0x48a, 0x5be, 0x64a, 0x660, 0x93b, 0x93d, 0x20f1, 0xfe30, 0x110000, -1, math.MinInt32, math.MaxInt32)
}

// TestAllNumbers: P5.2, of each rune and of numbers that are none.
func TestAllNumbers(t *testing.T) {
	if len(letters) == 0 || len(digits) != 40 || len(marks) == 0 || len(lowers) == 0 {
		t.Fatal("the model has no lists")
	}
	eachNumber(func(r rune) {
		if got, want := fold.Lower(r), lower(r); got != want {
			t.Errorf("Lower(%x) = %x, want %x", r, got, want)
		}
		if got := fold.Letter(r); got != letters[r] {
			t.Errorf("Letter(%x) = %t", r, got)
		}
		if got := fold.Digit(r); got != digits[r] {
			t.Errorf("Digit(%x) = %t", r, got)
		}
		if got := fold.Mark(r); got != marks[r] {
			t.Errorf("Mark(%x) = %t", r, got)
		}
	})
}

// TestLowerAgain: P5.8, of runes.
func TestLowerAgain(t *testing.T) {
	eachNumber(func(r rune) {
		l := fold.Lower(r)
		if again := fold.Lower(l); again != l {
			t.Errorf("Lower of Lower(%x): %x, was %x", r, again, l)
		}
		if fold.Letter(l) != fold.Letter(r) || fold.Digit(l) != fold.Digit(r) || fold.Mark(l) != fold.Mark(r) {
			t.Errorf("Lower(%x) = %x is of another kind", r, l)
		}
		if fold.Letter(r) && (fold.Digit(r) || fold.Mark(r)) || fold.Digit(r) && fold.Mark(r) {
			t.Errorf("%x is of two kinds", r)
		}
	})
}
