package analysis_test

import (
	"slices"
	"strings"
	"testing"
	"unsafe"

	"lectern/analysis"
	"lectern/api"
	"lectern/fold"
)

// TestPlaces: P6.5.
func TestPlaces(t *testing.T) {
	x := dice(11)
	texts := some(true, 2000)
	for _, chain := range chains() {
		for range 6 {
			text := pick(&x, texts)
			pos := 0
			for i, k := range mustRun(chain, text) {
				if k.Pos < pos || k.From < 0 || k.To <= k.From || k.To > len(text) {
					t.Errorf("Run(%v, %+q): token %d is %+v", chain, text, i, k)
				}
				if len(chain) == 1 && (k.Pos != i || k.Text != text[k.From:k.To]) {
					t.Errorf("Run(%v, %+q): token %d is %+v, its bytes %+q", chain, text, i, k, text[k.From:k.To])
				}
				pos = k.Pos
			}
		}
	}
}

// TestChain: P6.6.
func TestChain(t *testing.T) {
	x := dice(12)
	texts := some(true, 2000)
	long := []string{strings.Repeat("isa", 1000), strings.Repeat("\u0301e", 1300), strings.Repeat("東京 ", 500)}
	for _, chain := range chains() {
		last := len(chain) - 1
		if last == 0 {
			continue
		}
		for i := range 6 {
			text := pick(&x, texts)
			if i == 0 && last < 4 {
				text = pick(&x, long)
			}
			part, e := analysis.Run(chain[:last], text)
			if e != api.OK {
				wantRun(t, chain, text, nil, e)
				continue
			}
			want, e := analysis.Link(chain[last], part)
			wantRun(t, chain, text, want, e)
		}
	}
}

// mustLink tells what a filter makes of tokens that are not too many.
func mustLink(number int, l []api.Token) []api.Token {
	out, e := analysis.Link(number, l)
	if e != api.OK {
		panic(e)
	}
	return out
}

// TestOnceMore: P6.7.
func TestOnceMore(t *testing.T) {
	for _, n := range []int{api.FLower, api.FStop, api.FShort} {
		for _, l := range someTokens(true, 4000) {
			once := mustLink(n, l)
			wantLink(t, n, once, once, api.OK)
		}
	}
	for _, l := range someTokens(false, 4000) {
		once := mustLink(api.FMarks, l)
		wantLink(t, api.FMarks, once, once, api.OK)
		ahead := mustLink(api.FMarks, mustLink(api.FLower, l))
		wantLink(t, api.FLower, once, ahead, api.OK)
	}
}

// TestParts: P6.8.
func TestParts(t *testing.T) {
	x := dice(13)
	texts := some(true, 2000)
	for _, n := range []int{api.TLetters, api.TSpaces} {
		for i := range 4000 {
			blank, _ := fold.Put(blanks[i%len(blanks)])
			a, b := pick(&x, texts), pick(&x, texts)
			want := mustRun([]int{n}, a)
			words, bytes := len(want), len(a)+len(blank)
			for _, k := range mustRun([]int{n}, b) {
				want = append(want, api.Token{Text: k.Text, Pos: k.Pos + words, From: k.From + bytes, To: k.To + bytes})
			}
			wantRun(t, []int{n}, a+blank+b, want, api.OK)
		}
	}
}

// memory tells a text that has the memory of these bytes.
func memory(b []byte) string { return unsafe.String(unsafe.SliceData(b), len(b)) }

// deep tells a copy of tokens that shares no memory with them.
func deep(l []api.Token) []api.Token {
	out := slices.Clone(l)
	for i := range out {
		out[i].Text = strings.Clone(out[i].Text)
	}
	return out
}

// TestRunMemory: P6.9: what was answered stays as it is when the memory of what was handed in is used again.
func TestRunMemory(t *testing.T) {
	for _, s := range []string{"The fox of É\u0301 abcdefghijklmnopqrstuv", "x", "東京都 x", "a\xffb", "lower", "the"} {
		for _, chain := range chains() {
			if len(chain) > 3 {
				continue
			}
			b, c := []byte(s), slices.Clone(chain)
			got, _ := analysis.Run(c, memory(b))
			want := deep(got)
			if string(b) != s || !slices.Equal(c, chain) {
				t.Fatalf("Run(%v, %+q) changed them to %v, %+q", chain, s, c, b)
			}
			for i := range b {
				b[i] = '!'
			}
			clear(c)
			if !slices.Equal(got, want) {
				t.Errorf("Run(%v, %+q): %s became %s", chain, s, told(want), told(got))
			}
			clear(got)
			wantRun(t, chain, s, want, api.OK)
		}
	}
}

// TestLinkMemory: P6.9, of Link.
func TestLinkMemory(t *testing.T) {
	for _, s := range []string{"The Fox e\u0301 abcdefghijklmnopqrstuv", "x", "ab", "abc", "東京都", "fox", "the", "\u0301", "a\xffb"} {
		for _, n := range filters {
			b := []byte(s)
			in := list(k(memory(b), 1, 2, 3), k("aB", 4, 5, 6), k(memory(b), 7, 8, 9))
			was := deep(in)
			got := mustLink(n, in)
			want := deep(got)
			if string(b) != s || !slices.Equal(in, was) {
				t.Fatalf("Link(%d, %s) changed them to %s", n, told(was), told(in))
			}
			for i := range b {
				b[i] = '!'
			}
			clear(in)
			if !slices.Equal(got, want) {
				t.Errorf("Link(%d, %s): %s became %s", n, told(was), told(want), told(got))
			}
			clear(got)
			wantLink(t, n, was, want, api.OK)
		}
	}
}

// TestLinkAnswer: what is answered is a list of its own, also where the filter changes nothing: nothing that is done to it is seen in what was handed in.
func TestLinkAnswer(t *testing.T) {
	for _, n := range filters {
		in := make([]api.Token, 2, 10)
		in[0], in[1] = api.Token{Text: "x", Pos: 1, From: 2, To: 3}, api.Token{Text: "y", Pos: 4, From: 5, To: 6}
		was := slices.Clone(in[:10])
		got := mustLink(n, in)
		if !slices.Equal(got, in) {
			t.Errorf("Link(%d) = %s", n, told(got))
		}
		for i := range got {
			got[i] = api.Token{Text: "other"}
		}
		_ = append(got, api.Token{Text: "more"})
		if !slices.Equal(in[:10], was) {
			t.Errorf("Link(%d): what was handed in became %s", n, told(in[:10]))
		}
	}
}

// TestTogether: calls at one time don't touch each other.
func TestTogether(t *testing.T) {
	text := "The foxes of ÉÀ\u0301 東京都 and \xff others"
	chain := []int{api.TLetters, api.FLower, api.FMarks, api.FStop, api.FGrams2}
	want, _ := ran(chain, text)
	done := make(chan []api.Token)
	for range 8 {
		go func() {
			var got []api.Token
			for range 200 {
				got, _ = analysis.Run(chain, text)
			}
			done <- got
		}()
	}
	for range 8 {
		if got := <-done; !slices.Equal(got, want) {
			t.Errorf("Run, beside others: %s, want %s", told(got), told(want))
		}
	}
}
