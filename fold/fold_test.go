package fold_test

import (
	"bytes"
	"iter"
	"math"
	"slices"
	"strings"
	"testing"
	"unsafe"

	"lectern/api"
	"lectern/fold"
)

// wantNext fails unless that rune of so many bytes stands there.
func wantNext(t *testing.T, s string, at int, r rune, size int) {
	t.Helper()
	if gotR, gotSize := fold.Next(s, at); gotR != r || gotSize != size {
		t.Errorf("Next(%+q, %d) = %x, %d, want %x, %d", s, at, gotR, gotSize, r, size)
	}
}

func TestNext(t *testing.T) {
	wantNext(t, "aé", 0, 0x61, 1)
	wantNext(t, "aé", 1, 0xe9, 2)
	wantNext(t, "aé", 2, 0xfffd, 1)
	wantNext(t, "aé", 3, 0, 0)
	wantNext(t, "aé", -1, 0, 0)
	wantNext(t, "\xed\xa0\x80", 0, 0xfffd, 1)
	wantNext(t, "\xc0\x80", 0, 0xfffd, 1)
	wantNext(t, "\xf4\x90\x80\x80", 0, 0xfffd, 1)
	wantNext(t, "\xe2\x82", 0, 0xfffd, 1)
	wantNext(t, "\xef\xbf\xbd", 0, 0xfffd, 3)
	wantNext(t, "\x00", 0, 0, 1)
	for _, s := range []string{"", "a", "é", "\xff", "a text of some runes"} {
		for _, at := range []int{math.MinInt, math.MinInt32, -4, -1, len(s), len(s) + 1, len(s) + 4, 1 << 32, math.MaxInt - 1, math.MaxInt} {
			wantNext(t, s, at, 0, 0)
		}
	}
}

// wantAll fails unless Next and Valid tell of a text's places what the model does.
func wantAll(t *testing.T, s string) {
	t.Helper()
	for at := range len(s) {
		x := stepAt(s, at)
		wantNext(t, s, at, x.r, x.size)
	}
	if got, want := fold.Valid(s), !isOdd(s); got != want {
		t.Errorf("Valid(%+q) = %t", s, got)
	}
}

// TestNextModel: P5.1 and P5.6, of all rows of up to two bytes, of those of up to four with bytes at the edges, and of texts.
func TestNextModel(t *testing.T) {
	edges := []byte{0, 0x41, 0x7f, 0x80, 0x81, 0x8f, 0x90, 0x9f, 0xa0, 0xbf, 0xc0, 0xc1, 0xc2, 0xdf, 0xe0, 0xe1, 0xec, 0xed, 0xee, 0xef, 0xf0, 0xf1, 0xf3, 0xf4, 0xf5, 0xff}
	for a := range 256 {
		wantAll(t, string([]byte{byte(a)}))
		for b := range 256 {
			wantAll(t, string([]byte{byte(a), byte(b)}))
			for _, c := range edges {
				s := string([]byte{byte(a), byte(b), c})
				x := stepAt(s, 0)
				wantNext(t, s, 0, x.r, x.size)
			}
		}
	}
	for _, a := range edges {
		for _, b := range edges {
			for _, c := range edges {
				for _, d := range edges {
					s := string([]byte{a, b, c, d})
					x := stepAt(s, 0)
					wantNext(t, s, 0, x.r, x.size)
				}
			}
		}
	}
	for _, s := range some() {
		wantAll(t, s)
	}
}

func TestPut(t *testing.T) {
	for _, x := range []struct {
		r    rune
		want string
		e    api.Errno
	}{
		{0, "\x00", api.OK}, {'a', "a", api.OK}, {0x7f, "\x7f", api.OK}, {0x80, "\xc2\x80", api.OK}, {0xe9, "\xc3\xa9", api.OK},
		{0x7ff, "\xdf\xbf", api.OK}, {0x800, "\xe0\xa0\x80", api.OK}, {0xd7ff, "\xed\x9f\xbf", api.OK}, {0xe000, "\xee\x80\x80", api.OK},
		{0xfffd, "\xef\xbf\xbd", api.OK}, {0xffff, "\xef\xbf\xbf", api.OK}, {0x10000, "\xf0\x90\x80\x80", api.OK}, {0x10ffff, "\xf4\x8f\xbf\xbf", api.OK},
		{0xd800, "", api.ErrRune}, {0xdbff, "", api.ErrRune}, {0xdc00, "", api.ErrRune}, {0xdfff, "", api.ErrRune},
		{0x110000, "", api.ErrRune}, {-1, "", api.ErrRune}, {math.MinInt32, "", api.ErrRune}, {math.MaxInt32, "", api.ErrRune},
	} {
		if got, e := fold.Put(x.r); got != x.want || e != x.e {
			t.Errorf("Put(%x) = % x, %d, want % x, %d", x.r, got, e, x.want, x.e)
		}
	}
	eachNumber(func(r rune) {
		want, wantE := "", api.ErrRune
		if isRune(int(r)) {
			want, wantE = form(r), api.OK
		}
		if got, e := fold.Put(r); got != want || e != wantE {
			t.Errorf("Put(%x) = % x, %d, want % x, %d", r, got, e, want, wantE)
		}
	})
}

// wantRunes fails unless a sequence tells just these places and runes.
func wantRunes(t *testing.T, s string, l iter.Seq2[int, rune], want []step) {
	t.Helper()
	n := 0
	for at, r := range l {
		if n >= len(want) || at != want[n].at || r != want[n].r {
			t.Errorf("Runes(%+q): %x at %d, as number %d of %d", s, r, at, n, len(want))
			return
		}
		n++
	}
	if n != len(want) {
		t.Errorf("Runes(%+q): %d runes, want %d", s, n, len(want))
	}
}

func TestRunes(t *testing.T) {
	s := "aé\xe2\x82Ж\xff\U0001F600"
	want := []step{{at: 0, r: 'a'}, {at: 1, r: 'é'}, {at: 3, r: 0xfffd}, {at: 4, r: 0xfffd}, {at: 5, r: 'Ж'}, {at: 7, r: 0xfffd}, {at: 8, r: 0x1f600}}
	wantRunes(t, s, fold.Runes(s), want)
	wantRunes(t, "", fold.Runes(""), nil)
	for _, s := range some() {
		wantRunes(t, s, fold.Runes(s), steps(s))
	}
}

// TestRunesEarly: a sequence that is left early asks no more, and begins anew when it is gone over again.
func TestRunesEarly(t *testing.T) {
	s := "aé\xe2\x82Ж\xffB"
	want := steps(s)
	l := fold.Runes(s)
	for stop := range len(want) {
		n := 0
		l(func(int, rune) bool {
			n++
			return n <= stop
		})
		if n != stop+1 {
			t.Errorf("left at %d: asked %d times", stop, n)
		}
		wantRunes(t, s, l, want)
	}
	wantRunes(t, s, l, want)
	outer := 0
	for range l { // two walks at once
		wantRunes(t, s, l, want)
		outer++
	}
	if outer != len(want) {
		t.Errorf("%d runes around walks", outer)
	}
	next, stop := iter.Pull2(l)
	defer stop()
	for i, x := range want {
		if at, r, ok := next(); !ok || at != x.at || r != x.r {
			t.Errorf("step %d: %d, %x, %t", i, at, r, ok)
		}
	}
	if _, _, ok := next(); ok {
		t.Error("runes behind the last one")
	}
}

func TestFold(t *testing.T) {
	for _, x := range [][2]string{
		{"", ""}, {"ÀB7!\xff", "àb7!\xff"}, {"the fox", "the fox"}, {"The FOX", "the fox"}, {"ЖЁ ΆΏ Ÿ Ӏ", "жё άώ ÿ ӏ"},
		{"ĀāĹĺŽ", "āāĺĺž"}, {"\u0130\u0131\u1e9e\u00df\u212a", "\u0130\u0131\u1e9e\u00df\u212a"}, {"東京都", "東京都"}, {"\xff\xfe\x80", "\xff\xfe\x80"}, {"A\xc3B\xe2\x82C", "a\xc3b\xe2\x82c"},
		{"\uFFFDA\xff\uFFFD", "\uFFFDa\xff\uFFFD"}, {"\xc3A\x89", "\xc3a\x89"}, {"\xc1\x81", "\xc1\x81"}, {"\x00A\x00", "\x00a\x00"}, {"A\U0001F600\U00010400", "a\U0001F600\U00010400"},
	} {
		if got := fold.Fold(x[0]); got != x[1] {
			t.Errorf("Fold(%+q) = %+q, want %+q", x[0], got, x[1])
		}
	}
	for n := range 0x110000 {
		r := rune(n)
		if got, want := fold.Fold("A"+form(r)+"\xffZ"), "a"+form(lower(r))+"\xffz"; isRune(n) && got != want {
			t.Errorf("Fold of %x between others: % x", r, got)
		}
	}
	for _, s := range some() {
		if got, want := fold.Fold(s), folded(s); got != want {
			t.Errorf("Fold(%+q) = %+q, want %+q", s, got, want)
		}
	}
	long := strings.Repeat("ÀЖx\xff", 1<<18)
	if got := fold.Fold(long); got != strings.Repeat("àжx\xff", 1<<18) {
		t.Errorf("Fold of a long text: %d bytes", len(got))
	}
}

// TestFoldAgain: P5.8, of texts.
func TestFoldAgain(t *testing.T) {
	for _, s := range some() {
		if f := fold.Fold(s); fold.Fold(f) != f {
			t.Errorf("Fold of Fold(%+q): %+q, was %+q", s, fold.Fold(f), f)
		}
	}
	parts := pieces()
	for a := range 256 {
		parts = append(parts, string([]byte{byte(a)}), string([]byte{'A', byte(a)}), string([]byte{byte(a), 'B'}))
	}
	for _, a := range parts {
		for _, b := range parts {
			begins := b != "" && (b[0] < 0x80 || b[0] >= 0xc0)
			if !fold.Valid(a) && !begins {
				continue
			}
			if got, want := fold.Fold(a+b), fold.Fold(a)+fold.Fold(b); got != want {
				t.Errorf("Fold(%+q and %+q) = %+q, want %+q", a, b, got, want)
			}
		}
	}
}

func TestValid(t *testing.T) {
	for _, s := range []string{"", "a", "aé東", "\x00\x7f", "\uFFFD", "\ud7ff\ue000", "\U0010FFFF"} {
		if !fold.Valid(s) {
			t.Errorf("Valid(%+q) = false", s)
		}
	}
	for _, s := range []string{"\x80", "a\xff", "\xe2\x82", "é\xc3", "\xc0\x80", "\xed\xa0\x80", "\xed\xa0\x80\xed\xb0\x80", "\xf4\x90\x80\x80", "\xe2\x82a", strings.Repeat("a", 5000) + "\x80"} {
		if fold.Valid(s) {
			t.Errorf("Valid(%+q) = true", s)
		}
	}
}

// TestWhole: P5.7.
func TestWhole(t *testing.T) {
	for _, s := range some() {
		sum := 0
		for at, r := range fold.Runes(s) {
			next, size := fold.Next(s, at)
			if at != sum || r != next || size < 1 {
				t.Fatalf("%+q: %x at %d, Next tells %x, %d", s, r, at, next, size)
			}
			sum += size
			if odd := r == 0xfffd && size == 1; !odd {
				if p, e := fold.Put(r); e != api.OK || p != s[at:at+size] {
					t.Errorf("Put(%x) = % x, %d, was read of % x", r, p, e, s[at:at+size])
				}
			}
		}
		if sum != len(s) {
			t.Errorf("%+q: the sizes are %d together, not %d", s, sum, len(s))
		}
	}
	x := dice(9)
	for range 2000 {
		var want []rune
		s := ""
		for range x.below(20) {
			n := x.below([]int{0x80, 0x800, 0x10000, 0x110000}[x.below(4)])
			if p, e := fold.Put(rune(n)); e == api.OK {
				want = append(want, rune(n))
				s += p
			}
		}
		var got []rune
		for _, r := range fold.Runes(s) {
			got = append(got, r)
		}
		if !slices.Equal(got, want) || !fold.Valid(s) {
			t.Errorf("%x put, %x read, Valid %t", want, got, fold.Valid(s))
		}
	}
}

// TestMemory: P5.9: what is answered stays as it is when the memory of what was handed in is used again, and calls leave nothing behind for each other.
func TestMemory(t *testing.T) {
	for _, s := range []string{"The FOX é\xff", "the fox", "x", "\xff", strings.Repeat("ж", 100)} {
		b := []byte(s)
		in := unsafe.String(&b[0], len(b))
		f := fold.Fold(in)
		want := strings.Clone(f)
		if in != s || !bytes.Equal(b, []byte(s)) {
			t.Errorf("Fold changed %+q to %+q", s, b)
		}
		fold.Next(in, 0)
		fold.Valid(in)
		for range fold.Runes(in) {
		}
		if in != s {
			t.Errorf("%+q was changed to %+q", s, b)
		}
		for i := range b {
			b[i] = '!'
		}
		if f != want {
			t.Errorf("Fold(%+q) became %+q", s, f)
		}
		if got := fold.Fold(s); got != want {
			t.Errorf("Fold(%+q), again: %+q, was %+q", s, got, want)
		}
	}
}
