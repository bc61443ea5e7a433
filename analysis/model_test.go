package analysis_test

import (
	"fmt"
	"math"
	"regexp"
	"slices"
	"strconv"
	"strings"
	"unicode/utf8"

	"lectern/analysis"
	"lectern/api"
	"lectern/fold"
)

// The model of this file cuts a text into its runes' bytes first, and then goes by a text of their classes.

// dice throws numbers by a rule of their own, the same ones each time.
type dice uint64

func (x *dice) below(n int) int {
	*x = *x*6364136223846793005 + 1442695040888963407
	return int(uint64(*x) >> 33 % uint64(n))
}

func pick[T any](x *dice, l []T) T { return l[x.below(len(l))] }

const stopWords = "a an and are as at be but by for if in into is it no not of on or such that the their then there these they this to was will with"

var (
	tokenizers = []int{api.TLetters, api.TSpaces, api.TWhole, api.TGrams}
	filters    = []int{api.FLower, api.FStop, api.FGrams2, api.FGrams3, api.FShort, api.FMarks}
	blanks     = []rune{9, 0xa, 0xb, 0xc, 0xd, 0x20, 0x85, 0xa0, 0x2000, 0x2001, 0x2002, 0x2003, 0x2004, 0x2005, 0x2006, 0x2007, 0x2008, 0x2009, 0x200a, 0x2028, 0x2029, 0x3000}
	numbers    = []int{math.MinInt, -10, -1, 0, 1, 2, 3, 4, 5, 6, 9, 10, 11, 12, 13, 14, 15, 16, 100, 1 << 32, 1<<32 + 1, math.MaxInt}
)

// k makes a token.
func k(text string, pos, from, to int) api.Token {
	return api.Token{Text: text, Pos: pos, From: from, To: to}
}

func list(l ...api.Token) []api.Token { return l }

// told tells tokens as the chapter's examples do, as many as can be read.
func told(l []api.Token) string {
	out := strconv.Itoa(len(l)) + " tokens"
	for _, t := range l[:min(len(l), 20)] {
		out += fmt.Sprintf(", %+.100q %d %d-%d", t.Text, t.Pos, t.From, t.To)
	}
	return out
}

// pieces are what texts are made of.
func pieces() []string {
	return []string{
		"a", "Z", "7", "é", "É", "ж", "Ж", "東", "京", "都", "한", "ｅ", "٣", "५", "\u0301", "\u0301", "\u0489", "\u093c", "\u20d0", "\ufe2f", "e\u0301",
		" ", " ", "\t", "\r\n", "\u0085", "\u00a0", "\u2003", "\u2028", "\u3000", "\u200b", "\u1680", "-", "_", ".", "'", "\x00", "÷", "\ufffd", "\U0001f600", "\U00010400",
		"the", "The", " of ", " Of ", " is", "a ", "abcdefghijklmnop", "abcdefghijklmnopq", "ÀÉÎõü",
		"\xff", "\x80", "\x81", "\x85", "\xa0", "\xcc", "\xe6\x9d", "\xb1", "\xc3", "\xed\xa0\x80", "\xc0\x80", "\xf0\x9f\x98",
	}
}

// some tells texts: the empty one, each piece, each two of them, and rows of any, with odd bytes just if that may be.
func some(odd bool, rows int) []string {
	parts := slices.DeleteFunc(pieces(), func(s string) bool { return !odd && !utf8.ValidString(s) })
	out := append([]string{""}, parts...)
	for _, a := range parts {
		for _, b := range parts {
			out = append(out, a+b)
		}
	}
	x := dice(6)
	for range rows {
		s := ""
		for range x.below(30) {
			s += pick(&x, parts)
		}
		out = append(out, s)
	}
	return out
}

// chains tells all chains: a tokenizer, and filters in each order.
func chains() [][]int {
	var out [][]int
	for _, t := range tokenizers {
		out = append(out, []int{t})
	}
	for i := 0; i < len(out); i++ {
		for _, f := range filters {
			if !slices.Contains(out[i], f) {
				out = append(out, append(slices.Clone(out[i]), f))
			}
		}
	}
	return out
}

// isChain, as the chapter tells it.
func isChain(l []int) bool {
	if len(l) < 1 || len(l) > 8 || !slices.Contains(tokenizers, l[0]) {
		return false
	}
	seen := map[int]bool{}
	for _, n := range l[1:] {
		if !slices.Contains(filters, n) || seen[n] {
			return false
		}
		seen[n] = true
	}
	return true
}

// split tells the bytes of each rune of a text.
func split(s string) []string {
	var out []string
	for at := 0; at < len(s); {
		_, size := utf8.DecodeRuneInString(s[at:])
		out = append(out, s[at:at+size])
		at += size
	}
	return out
}

// class tells a rune's class by a letter: letter or digit, mark, blank, other.
func class(r rune) byte {
	switch {
	case fold.Letter(r) || fold.Digit(r):
		return 'l'
	case fold.Mark(r):
		return 'm'
	case slices.Contains(blanks, r):
		return 'b'
	}
	return 'o'
}

var (
	lettersForm = regexp.MustCompile("[lm]+")
	spacesForm  = regexp.MustCompile("[^b]+")
)

// spans tells where the tokens of a tokenizer begin and end, in runes that have these classes.
func spans(tokenizer int, classes string) [][]int {
	var out [][]int
	switch tokenizer {
	case api.TLetters:
		for _, run := range lettersForm.FindAllStringIndex(classes, -1) {
			marks := run[1] - run[0] - len(strings.TrimLeft(classes[run[0]:run[1]], "m"))
			if run[0] += marks; run[0] < run[1] {
				out = append(out, run)
			}
		}
	case api.TSpaces:
		out = spacesForm.FindAllStringIndex(classes, -1)
	case api.TWhole:
		if classes != "" {
			out = [][]int{{0, len(classes)}}
		}
	case api.TGrams:
		for _, run := range spans(api.TLetters, classes) {
			if run[1]-run[0] == 1 {
				out = append(out, run)
			}
			for at := run[0]; at+2 <= run[1]; at++ {
				out = append(out, []int{at, at + 2})
			}
		}
	}
	return out
}

// tokenized tells a tokenizer's tokens of a text.
func tokenized(tokenizer int, text string) []api.Token {
	runes := split(text)
	places := []int{0}
	var classes strings.Builder
	for _, p := range runes {
		r, _ := utf8.DecodeRuneInString(p)
		classes.WriteByte(class(r))
		places = append(places, places[len(places)-1]+len(p))
	}
	var out []api.Token
	for i, s := range spans(tokenizer, classes.String()) {
		out = append(out, api.Token{Text: strings.Join(runes[s[0]:s[1]], ""), Pos: i, From: places[s[0]], To: places[s[1]]})
	}
	return out
}

// words tells what a filter makes of a word.
func words(filter int, word string) []string {
	runes := split(word)
	switch filter {
	case api.FLower:
		for i, p := range runes {
			r, _ := utf8.DecodeRuneInString(p)
			if low := fold.Lower(r); low != r {
				runes[i] = string(low)
			}
		}
		return []string{strings.Join(runes, "")}
	case api.FStop:
		if slices.Contains(strings.Fields(stopWords), word) {
			return nil
		}
		return []string{word}
	case api.FGrams2, api.FGrams3:
		n := filter - api.FGrams2 + 2
		if len(runes) <= n {
			return []string{word}
		}
		var out []string
		for at := 0; at+n <= len(runes); at++ {
			out = append(out, strings.Join(runes[at:at+n], ""))
		}
		return out
	case api.FShort:
		return []string{strings.Join(runes[:min(len(runes), 16)], "")}
	}
	left := slices.DeleteFunc(runes, func(p string) bool {
		r, _ := utf8.DecodeRuneInString(p)
		return class(r) == 'm'
	})
	if len(left) == 0 {
		return nil
	}
	return []string{strings.Join(left, "")}
}

// filtered tells what a filter makes of tokens.
func filtered(filter int, l []api.Token) ([]api.Token, api.Errno) {
	var out []api.Token
	for _, t := range l {
		for _, w := range words(filter, t.Text) {
			out = append(out, api.Token{Text: w, Pos: t.Pos, From: t.From, To: t.To})
		}
	}
	if len(out) > 4096 {
		return nil, api.ErrMany
	}
	return out, api.OK
}

// ran tells a chain's tokens of a text.
func ran(chain []int, text string) ([]api.Token, api.Errno) {
	if !isChain(chain) {
		return nil, api.ErrChain
	}
	if len(text) > 4096 {
		return nil, api.ErrLong
	}
	out := tokenized(chain[0], text)
	for _, f := range chain[1:] {
		var e api.Errno
		if out, e = filtered(f, out); e != api.OK {
			return nil, e
		}
	}
	return out, api.OK
}

// mustRun tells the tokens of a chain that must have some answer.
func mustRun(chain []int, text string) []api.Token {
	l, e := analysis.Run(chain, text)
	if e != api.OK {
		panic(e)
	}
	return l
}

// some tokens, as they may be handed in to Link: not only such as a tokenizer has.
func someTokens(odd bool, rows int) [][]api.Token {
	texts := some(odd, rows)
	out := [][]api.Token{nil, {}, {{}}, {{}, {Text: "a", Pos: -1, From: math.MinInt, To: math.MaxInt}, {}}}
	x := dice(7)
	for range rows {
		var l []api.Token
		for range x.below(8) {
			l = append(l, api.Token{Text: pick(&x, texts), Pos: pick(&x, numbers), From: pick(&x, numbers), To: pick(&x, numbers)})
		}
		out = append(out, l)
	}
	return out
}
