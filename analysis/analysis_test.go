package analysis_test

import (
	"math"
	"slices"
	"strings"
	"testing"

	"lectern/analysis"
	"lectern/api"
)

func TestCheck(t *testing.T) {
	for _, x := range []struct {
		chain []int
		want  api.Errno
	}{
		{nil, api.ErrChain}, {[]int{}, api.ErrChain}, {[]int{10}, api.ErrChain}, {[]int{1, 2}, api.ErrChain}, {[]int{1, 10, 10}, api.ErrChain}, {[]int{3}, api.OK},
		{[]int{1}, api.OK}, {[]int{2}, api.OK}, {[]int{4}, api.OK}, {[]int{0}, api.ErrChain}, {[]int{5}, api.ErrChain}, {[]int{-1}, api.ErrChain},
		{[]int{1, 1}, api.ErrChain}, {[]int{10, 1}, api.ErrChain}, {[]int{1, 10, 2}, api.ErrChain}, {[]int{1, 9}, api.ErrChain}, {[]int{1, 16}, api.ErrChain}, {[]int{1, 0}, api.ErrChain},
		{[]int{4, 10, 11, 12, 13, 14, 15}, api.OK}, {[]int{2, 15, 14, 13, 12, 11, 10}, api.OK},
		{[]int{1, 10, 11, 12, 13, 14, 15, 10}, api.ErrChain}, {[]int{1, 10, 11, 12, 13, 14, 15, 16}, api.ErrChain}, {[]int{1, 10, 11, 12, 13, 14, 15, 10, 11}, api.ErrChain},
		{slices.Repeat([]int{1, 10}, 1<<20), api.ErrChain}, {[]int{1 << 32, 10}, api.ErrChain}, {[]int{1<<32 + 1}, api.ErrChain}, {[]int{math.MinInt}, api.ErrChain}, {[]int{1, math.MaxInt}, api.ErrChain},
	} {
		if got := analysis.Check(x.chain); got != x.want {
			t.Errorf("Check(%v) = %d, want %d", x.chain[:min(len(x.chain), 10)], got, x.want)
		}
	}
}

// TestCheckModel: all rows of up to four numbers, and all chains.
func TestCheckModel(t *testing.T) {
	var check func(row []int)
	check = func(row []int) {
		want := api.ErrChain
		if isChain(row) {
			want = api.OK
		}
		if got := analysis.Check(row); got != want {
			t.Errorf("Check(%v) = %d, want %d", row, got, want)
		}
		for _, n := range numbers {
			if len(row) < 4 {
				check(append(slices.Clone(row), n))
			}
		}
	}
	check(nil)
	all := chains()
	if len(all) != 4*1957 {
		t.Errorf("%d chains", len(all))
	}
	for _, c := range all {
		if got := analysis.Check(c); got != api.OK {
			t.Errorf("Check(%v) = %d", c, got)
		}
		for i := range c {
			if twice := append(slices.Clone(c), c[i]); analysis.Check(twice) != api.ErrChain {
				t.Errorf("Check(%v) = OK", twice)
			}
		}
	}
}

// wantRun fails unless Run answers that.
func wantRun(t *testing.T, chain []int, text string, want []api.Token, e api.Errno) {
	t.Helper()
	got, gotE := analysis.Run(chain, text)
	if !slices.Equal(got, want) || gotE != e {
		t.Fatalf("Run(%v, %+.200q) = %s, %d, want %s, %d", chain, text, told(got), gotE, told(want), e)
	}
}

func TestRun(t *testing.T) {
	long := strings.Repeat("x", 17)
	for _, x := range []struct {
		chain []int
		text  string
		want  []api.Token
	}{
		{[]int{1}, "The fox, 7", list(k("The", 0, 0, 3), k("fox", 1, 4, 7), k("7", 2, 9, 10))},
		{[]int{1, 10, 11}, "The fox of", list(k("fox", 1, 4, 7))},
		{[]int{2}, "a-b  c", list(k("a-b", 0, 0, 3), k("c", 1, 5, 6))},
		{[]int{3}, "a b", list(k("a b", 0, 0, 3))},
		{[]int{3}, "", nil},
		{[]int{4}, "東京都 x", list(k("東京", 0, 0, 6), k("京都", 1, 3, 9), k("x", 2, 10, 11))},
		{[]int{1, 13}, "abcd ab", list(k("abc", 0, 0, 4), k("bcd", 0, 0, 4), k("ab", 1, 5, 7))},
		{[]int{1, 15}, "e\u0301", list(k("e", 0, 0, 3))},

		{[]int{1}, "", nil}, {[]int{2}, "", nil}, {[]int{4}, "", nil}, {[]int{1}, " ,.\xff", nil}, {[]int{2}, " \t\u3000", nil},
		{[]int{3}, " \xff", list(k(" \xff", 0, 0, 2))},
		// Marks ahead of a run's first letter are not the token's; those behind it are.
		{[]int{1}, "\u0301\u0301e\u0301 \u0301 \u0301", list(k("e\u0301", 0, 4, 7))},
		{[]int{1}, "\u03017\u0301x\u0301", list(k("7\u0301x\u0301", 0, 2, 8))},
		{[]int{4}, "\u0301e\u0301\u0301x", list(k("e\u0301", 0, 2, 5), k("\u0301\u0301", 1, 3, 7), k("\u0301x", 2, 5, 8))},
		{[]int{4}, "ab-c-de", list(k("ab", 0, 0, 2), k("c", 1, 3, 4), k("de", 2, 5, 7))},
		// Odd bytes are neither letters nor blanks, the bytes 85 and A0 too.
		{[]int{1}, "a\xffb", list(k("a", 0, 0, 1), k("b", 1, 2, 3))},
		{[]int{2}, "\x85a\xa0 \xff", list(k("\x85a\xa0", 0, 0, 3), k("\xff", 1, 4, 5))},
		{[]int{2}, "a\u0085b\u00a0c\u200bd\u202f", list(k("a", 0, 0, 1), k("b", 1, 3, 4), k("c\u200bd\u202f", 2, 6, 14))},

		{[]int{1, 11}, "The fox of it", list(k("The", 0, 0, 3), k("fox", 1, 4, 7))}, // FStop as it stands: The is none of its words
		{[]int{1, 11, 10}, "The of", list(k("the", 0, 0, 3))},
		{[]int{2, 12}, "ab abc x", list(k("ab", 0, 0, 2), k("ab", 1, 3, 6), k("bc", 1, 3, 6), k("x", 2, 7, 8))},
		{[]int{2, 12}, "東\xff京", list(k("東\xff", 0, 0, 7), k("\xff京", 0, 0, 7))},
		{[]int{3, 13, 12}, "abcd", list(k("ab", 0, 0, 4), k("bc", 0, 0, 4), k("bc", 0, 0, 4), k("cd", 0, 0, 4))},
		{[]int{1, 14}, long[:16] + " " + long, list(k(long[:16], 0, 0, 16), k(long[:16], 1, 17, 34))},
		{[]int{2, 15}, "\u0301 e\u0301e", list(k("ee", 1, 3, 7))},
		{[]int{2, 15}, "\xcc\u0301\x81", list(k("\u0301", 0, 0, 4))}, // what is left is a mark, and stays
		{[]int{1, 10, 15, 11}, "T\u0301HE É\u0301", list(k("é", 1, 6, 10))},
	} {
		wantRun(t, x.chain, x.text, x.want, api.OK)
	}
}

// TestRunModel: all chains.
func TestRunModel(t *testing.T) {
	x := dice(8)
	texts := some(true, 4000)
	for _, chain := range chains() {
		for range 6 {
			text := pick(&x, texts)
			want, e := ran(chain, text)
			wantRun(t, chain, text, want, e)
		}
	}
	for _, text := range texts {
		for _, n := range tokenizers {
			want, e := ran([]int{n}, text)
			wantRun(t, []int{n}, text, want, e)
		}
	}
}

// TestRunErrors: P6.2's errors at their edges, and which of them goes first.
func TestRunErrors(t *testing.T) {
	full := strings.Repeat("x", api.MaxText)
	wantRun(t, []int{3}, full, list(k(full, 0, 0, 4096)), api.OK)
	for _, n := range tokenizers {
		wantRun(t, []int{n}, full+"x", nil, api.ErrLong)
		wantRun(t, []int{n}, full+" ", nil, api.ErrLong)
		wantRun(t, []int{n}, strings.Repeat("東", 1366), nil, api.ErrLong)
		wantRun(t, []int{n, n}, full+"x", nil, api.ErrChain)
		wantRun(t, []int{n, 13, 12}, full+"x", nil, api.ErrLong)
		wantRun(t, []int{n, 13, 12, 13}, full, nil, api.ErrChain)
		wantRun(t, []int{n}, strings.Repeat("a ", 1<<20), nil, api.ErrLong)
	}
	wantRun(t, nil, full+"x", nil, api.ErrChain)
	wantRun(t, nil, "x", nil, api.ErrChain)
	wantRun(t, []int{10}, "x", nil, api.ErrChain)
	wantRun(t, []int{1, 16}, "", nil, api.ErrChain)
	wantRun(t, []int{-1}, "", nil, api.ErrChain)

	for _, text := range []string{full, strings.Repeat("a ", 2048), strings.Repeat("ab", 2048), strings.Repeat("\xff", 4096), strings.Repeat("is", 2048)} {
		for _, chain := range chains() {
			if len(chain) > 2 {
				break
			}
			want, e := ran(chain, text)
			wantRun(t, chain, text, want, e)
		}
	}
	if got := mustRun([]int{4}, full); len(got) != 4095 {
		t.Errorf("%d tokens of the longest text", len(got))
	}
	if got := mustRun([]int{3, 13, 12}, full[:2050]); len(got) != api.MaxTokens {
		t.Errorf("%d tokens, want as many as may be", len(got))
	}
	wantRun(t, []int{3, 13, 12}, full[:2051], nil, api.ErrMany)
	// A link between others answers too many, though what is left behind the last one is not.
	isis := strings.Repeat("is", 2048)
	wantRun(t, []int{3, 13, 12}, isis[:2051], nil, api.ErrMany)
	wantRun(t, []int{3, 13, 12, 11}, isis[:2051], nil, api.ErrMany)
	if got := mustRun([]int{3, 13, 12, 11}, isis[:2050]); len(got) != 2048 {
		t.Errorf("%d tokens behind FStop", len(got))
	}
	wantRun(t, []int{3, 13, 12, 15}, strings.Repeat("xx\u0301\u0301", 682), nil, api.ErrMany)
}

// wantLink fails unless Link answers that.
func wantLink(t *testing.T, number int, l, want []api.Token, e api.Errno) {
	t.Helper()
	got, gotE := analysis.Link(number, l)
	if !slices.Equal(got, want) || gotE != e {
		t.Fatalf("Link(%d, %s) = %s, %d, want %s, %d", number, told(l), told(got), gotE, told(want), e)
	}
}

func TestLink(t *testing.T) {
	for _, n := range numbers {
		if slices.Contains(filters, n) {
			wantLink(t, n, nil, nil, api.OK)
			wantLink(t, n, []api.Token{}, nil, api.OK)
			continue
		}
		wantLink(t, n, nil, nil, api.ErrChain)
		wantLink(t, n, list(k("a", 0, 0, 1)), nil, api.ErrChain)
		wantLink(t, n, make([]api.Token, 5000), nil, api.ErrChain)
	}
	wantLink(t, api.FStop, list(k("a", 0, 0, 1), k("b", 1, 2, 3)), list(k("b", 1, 2, 3)), api.OK)
	wantLink(t, api.FMarks, list(k("", 1, 2, 3), k("x", 1, 2, 3), k("\u0301", 4, 5, 6)), list(k("x", 1, 2, 3)), api.OK)
	for _, n := range []int{api.FLower, api.FStop, api.FGrams2, api.FGrams3, api.FShort} {
		wantLink(t, n, list(k("", 1, 2, 3)), list(k("", 1, 2, 3)), api.OK)
	}
	odd := list(k("B", -7, math.MaxInt, math.MinInt), k("B", 3, 9, 2), k("A", -7, 0, 0))
	wantLink(t, api.FLower, odd, list(k("b", -7, math.MaxInt, math.MinInt), k("b", 3, 9, 2), k("a", -7, 0, 0)), api.OK)
	for _, n := range filters {
		for _, l := range someTokens(true, 4000) {
			want, e := filtered(n, l)
			wantLink(t, n, l, want, e)
		}
	}
}

// TestLinkMany: what counts is how many tokens there are behind the filter.
func TestLinkMany(t *testing.T) {
	row := func(word string, n int) []api.Token { return slices.Repeat(list(k(word, 1, 2, 3)), n) }
	for _, n := range filters {
		wantLink(t, n, row("x", 4095), row("x", 4095), api.OK)
		wantLink(t, n, row("x", 4096), row("x", 4096), api.OK)
		wantLink(t, n, row("x", 4097), nil, api.ErrMany)
		wantLink(t, n, row("x", 1<<16), nil, api.ErrMany)
	}
	wantLink(t, api.FStop, slices.Concat(row("the", 5000), row("x", 4096), row("of", 5000)), row("x", 4096), api.OK)
	wantLink(t, api.FStop, slices.Concat(row("the", 5000), row("x", 4096), row("of", 5000), row("x", 1)), nil, api.ErrMany)
	wantLink(t, api.FMarks, slices.Concat(row("\u0301", 5000), row("x", 4096), row("", 5000)), row("x", 4096), api.OK)
	wantLink(t, api.FMarks, slices.Concat(row("\u0301", 5000), row("x", 4097)), nil, api.ErrMany)
	for _, n := range []int{api.FGrams2, api.FGrams3} {
		size := n - api.FGrams2 + 2
		gram := strings.Repeat("é", size)
		wantLink(t, n, row(strings.Repeat("é", 4095+size), 1), row(gram, 4096), api.OK)
		wantLink(t, n, row(strings.Repeat("é", 4096+size), 1), nil, api.ErrMany)
		wantLink(t, n, row(strings.Repeat("é", 1+size), 2048), row(gram, 4096), api.OK)
		wantLink(t, n, append(row(strings.Repeat("é", 1+size), 2048), row("", 1)...), nil, api.ErrMany)
		wantLink(t, n, row(strings.Repeat("é", 1<<20), 1000), nil, api.ErrMany)
	}
	huge := strings.Repeat("é\u0301", 1<<20)
	wantLink(t, api.FLower, list(k(strings.ToUpper(huge), 1, 2, 3)), list(k(huge, 1, 2, 3)), api.OK)
	wantLink(t, api.FShort, list(k(huge, 1, 2, 3)), list(k(huge[:32], 1, 2, 3)), api.OK)
	wantLink(t, api.FMarks, list(k(huge, 1, 2, 3)), list(k(strings.Repeat("é", 1<<20), 1, 2, 3)), api.OK)
}

// TestLinkShort: FShort counts runes, not bytes.
func TestLinkShort(t *testing.T) {
	for _, r := range []string{"x", "é", "東", "\U0001f600", "\xff", "\u0301"} {
		for n := range 40 {
			in, want := strings.Repeat(r, n), strings.Repeat(r, min(n, 16))
			wantLink(t, api.FShort, list(k(in, 1, 2, 3)), list(k(want, 1, 2, 3)), api.OK)
		}
	}
}

func TestStop(t *testing.T) {
	l := strings.Fields(stopWords)
	if len(l) != 33 {
		t.Errorf("%d words", len(l))
	}
	for _, w := range l {
		if !analysis.Stop(w) {
			t.Errorf("Stop(%q) = false", w)
		}
		wantLink(t, api.FStop, list(k(w, 0, 0, 1)), nil, api.OK)
		for _, other := range []string{strings.ToUpper(w), strings.ToUpper(w[:1]) + w[1:], w + " ", " " + w, w + "\x00", w + "x", w[1:] + "q", w + w} {
			if analysis.Stop(other) {
				t.Errorf("Stop(%q) = true", other)
			}
		}
	}
	for _, w := range []string{"", " ", "fox", "i", "am", "he", "she", "we", "you", "from", "were", "has", "had", "so", "do", "who", "than", "those", "\xff", stopWords, strings.Repeat("a", 1<<20)} {
		if analysis.Stop(w) {
			t.Errorf("Stop(%.40q) = true", w)
		}
	}
	letters := "abcdefghijklmnopqrstuvwxyz"
	for _, a := range letters { // all words of up to three letters
		for _, b := range " " + letters {
			for _, c := range " " + letters {
				w := strings.ReplaceAll(string([]rune{a, b, c}), " ", "")
				if got, want := analysis.Stop(w), slices.Contains(l, w); got != want {
					t.Errorf("Stop(%q) = %t", w, got)
				}
			}
		}
	}
}

func TestBlank(t *testing.T) {
	for r := rune(-0x1000); r < 0x111000; r++ {
		if got, want := analysis.Blank(r), slices.Contains(blanks, r); got != want {
			t.Errorf("Blank(%x) = %t", r, got)
		}
	}
	for _, r := range []rune{math.MinInt32, math.MinInt32 + 0x20, math.MaxInt32, 0x40000020} {
		if analysis.Blank(r) {
			t.Errorf("Blank(%x) = true", r)
		}
	}
}
