package fold_test

import (
	"strconv"
	"strings"
	"sync"
)

// dice throws numbers by a rule of their own, the same ones each time.
type dice uint64

func (x *dice) below(n int) int {
	*x = *x*6364136223846793005 + 1442695040888963407
	return int(uint64(*x) >> 33 % uint64(n))
}

// isRune, as the chapter tells it.
func isRune(n int) bool { return n >= 0 && n <= 0x10ffff && (n < 0xd800 || n > 0xdfff) }

// form tells a rune's form, as the chapter does.
func form(r rune) string {
	low := func(shift int) byte { return 0x80 + byte(r>>shift)%0x40 }
	switch {
	case r < 0x80:
		return string([]byte{byte(r)})
	case r < 0x800:
		return string([]byte{0xc0 + byte(r>>6), low(0)})
	case r < 0x10000:
		return string([]byte{0xe0 + byte(r>>12), low(6), low(0)})
	}
	return string([]byte{0xf0 + byte(r>>18), low(12), low(6), low(0)})
}

// forms are all runes by their forms.
var forms = sync.OnceValue(func() map[string]rune {
	out := map[string]rune{}
	for n := range 0x110000 {
		if isRune(n) {
			out[form(rune(n))] = rune(n)
		}
	}
	return out
})

// step is a rune at a place of a text.
type step struct {
	at, size int
	r        rune
	odd      bool
}

// stepAt tells the rune whose form begins at a byte that is there, or the odd byte.
func stepAt(s string, at int) step {
	for size := 1; size <= 4 && at+size <= len(s); size++ {
		if r, ok := forms()[s[at:at+size]]; ok {
			return step{at, size, r, false}
		}
	}
	return step{at, 1, 0xfffd, true}
}

// steps tells the runes of a text.
func steps(s string) []step {
	var out []step
	for at := 0; at < len(s); {
		x := stepAt(s, at)
		out = append(out, x)
		at += x.size
	}
	return out
}

// isOdd: is there an odd byte in a text?
func isOdd(s string) bool {
	for _, x := range steps(s) {
		if x.odd {
			return true
		}
	}
	return false
}

// set tells the runes of a list as the chapter has it: "5-7, A, 10-1F without 12 and 15-16".
func set(list string) map[rune]bool {
	out := map[rune]bool{}
	put := func(part string, is bool) {
		from, to, ok := strings.Cut(part, "-")
		if !ok {
			to = from
		}
		for r := hex(from); r <= hex(to); r++ {
			if out[r] == is {
				panic(part + " stands there twice, or not at all")
			}
			if is {
				out[r] = true
			} else {
				delete(out, r)
			}
		}
	}
	for part := range strings.SplitSeq(list, ", ") {
		all, without, _ := strings.Cut(part, " without ")
		put(all, true)
		for w := range strings.SplitSeq(without, " and ") {
			if w != "" {
				put(w, false)
			}
		}
	}
	return out
}

func hex(s string) rune {
	n, err := strconv.ParseInt(s, 16, 32)
	if err != nil {
		panic(err)
	}
	return rune(n)
}

// The chapter's lists.
var (
	letters = set("41-5A, 61-7A, AA, B5, BA, C0-D6, D8-F6, F8-2AF, 370-373, 376-377, 37B-37D, 37F, 386, 388-38A, 38C, 38E-3A1, 3A3-3FF without 3F6, 400-52F without 482-489, 5D0-5EA, 620-64A, 904-939, 3041-3096, 30A1-30FA, 4E00-9FFF, AC00-D7A3")
	digits  = set("30-39, 660-669, 966-96F, FF10-FF19")
	marks   = set("300-36F, 483-489, 591-5BD, 64B-65F, 93C, 20D0-20F0, FE20-FE2F")
	lowers  = lowerCases()
)

// lowerCases tells the lower case of each rune that is not its own.
func lowerCases() map[rune]rune {
	out := map[rune]rune{}
	rule := func(list string, low func(r rune) rune) {
		for r := range set(list) {
			if out[r] != 0 {
				panic("two rules for one rune")
			}
			if l := low(r); l != r {
				out[r] = l
			}
		}
	}
	plus := func(n rune) func(rune) rune { return func(r rune) rune { return r + n } }
	only := func(n rune) func(rune) rune { return func(rune) rune { return n } }
	next := func(rest rune) func(rune) rune {
		return func(r rune) rune {
			if r%2 == rest {
				return r + 1
			}
			return r
		}
	}
	rule("41-5A, C0-DE without D7", plus(0x20))
	rule("100-137 without 130 and 131, 14A-177, 460-481, 48A-4BF, 4D0-52F", next(0))
	rule("139-148, 179-17E, 4C1-4CE", next(1))
	rule("178", only(0xff))
	rule("4C0", only(0x4cf))
	rule("386", only(0x3ac))
	rule("388-38A", plus(0x25))
	rule("38C", only(0x3cc))
	rule("38E-38F", plus(0x3f))
	rule("391-3AB without 3A2", plus(0x20))
	rule("400-40F", plus(0x50))
	rule("410-42F", plus(0x20))
	return out
}

// lower tells a rune's lower case.
func lower(r rune) rune {
	if l, ok := lowers[r]; ok {
		return l
	}
	return r
}

// folded tells a text in lower case.
func folded(s string) string {
	out := ""
	for _, x := range steps(s) {
		if lower(x.r) != x.r {
			out += form(lower(x.r))
		} else {
			out += s[x.at : x.at+x.size]
		}
	}
	return out
}

// pieces are what texts are made of: runes at the edges of their forms and lists, and bytes that are odd.
func pieces() []string {
	out := []string{
		"", "A", "z", " ", "7", "é", "É", "Ж", "ж", "Ω", "Ÿ", "ß", "İ", "東", "\uFFFD", "e\u0301", "\U0001F600", "\U0010FFFF", "\x00", "\x7f", "\u0080", "\u07ff", "\u0800", "\uffff", "\U00010000",
		"\x80", "\xbf", "\xc0", "\xc1", "\xc2", "\xc3", "\xdf", "\xe0", "\xe2", "\xe2\x82", "\xed", "\xef\xbf", "\xf0", "\xf0\x90", "\xf0\x9f\x98", "\xf4", "\xf5", "\xf8", "\xff",
		"\xc0\x80", "\xc1\xbf", "\xe0\x80\x80", "\xe0\x9f\xbf", "\xed\xa0\x80", "\xed\xbf\xbf", "\xf0\x80\x80\x80", "\xf0\x8f\xbf\xbf", "\xf4\x90\x80\x80", "\xf7\xbf\xbf\xbf", "\xf8\x88\x80\x80\x80",
	}
	for _, r := range []rune{0x100, 0x101, 0x130, 0x131, 0x137, 0x139, 0x148, 0x178, 0x17d, 0x386, 0x388, 0x38c, 0x38f, 0x3a2, 0x400, 0x42f, 0x4c0, 0x4c1, 0x4cf, 0x52e, 0x530} {
		out = append(out, form(r))
	}
	return out
}

// some tells texts: each piece, each two of them one behind the other, and rows of any.
func some() []string {
	parts := pieces()
	out := parts
	for _, a := range parts {
		for _, b := range parts {
			out = append(out, a+b)
		}
	}
	x := dice(5)
	for range 3000 {
		s := ""
		for range x.below(12) {
			if x.below(4) > 0 {
				s += parts[x.below(len(parts))]
			} else {
				s += string([]byte{byte(x.below(256))})
			}
		}
		out = append(out, s)
	}
	return out
}
