package analysis

import (
	"iter"
	"slices"
	"strings"

	"lectern/api"
	"lectern/fold"
)

// mostRunes is how many runes FShort leaves of a word.
const mostRunes = 16

// filter tells the words that stand in place of a token's.
type filter func(word string) iter.Seq[string]

// filterOf finds the filter of a number: nil, if it is none's.
func filterOf(number int) filter {
	switch number {
	case api.FLower:
		return lowered
	case api.FStop:
		return unstopped
	case api.FGrams2:
		return gramsOf(2)
	case api.FGrams3:
		return gramsOf(3)
	case api.FShort:
		return shortened
	case api.FMarks:
		return unmarked
	}
	return nil
}

// lowered filters by FLower.
func lowered(word string) iter.Seq[string] { return row(fold.Fold(word)) }

// unstopped filters by FStop.
func unstopped(word string) iter.Seq[string] {
	if Stop(word) {
		return row()
	}
	return row(word)
}

// gramsOf makes the filters FGrams2 and FGrams3.
func gramsOf(n int) filter {
	return func(word string) iter.Seq[string] {
		return func(yield func(string) bool) {
			for from, to := range grams(word, n) {
				if !yield(word[from:to]) {
					return
				}
			}
		}
	}
}

// shortened filters by FShort.
func shortened(word string) iter.Seq[string] { return row(word[:behind(word, 0, mostRunes)]) }

// unmarked filters by FMarks.
func unmarked(word string) iter.Seq[string] {
	if left := withoutMarks(word); left != "" {
		return row(left)
	}
	return row()
}

func withoutMarks(word string) string {
	var out strings.Builder
	done := 0
	for at, r := range fold.Runes(word) {
		if fold.Mark(r) {
			out.WriteString(word[done:at])
			done = behind(word, at, 1)
		}
	}
	out.WriteString(word[done:])
	return out.String()
}

func row(words ...string) iter.Seq[string] { return slices.Values(words) }

// Stop tells whether a text is one of the words that FStop leaves out: P6.4.
func Stop(word string) bool {
	switch word {
	case "a", "an", "and", "are", "as", "at", "be", "but", "by", "for", "if", "in", "into", "is", "it", "no", "not",
		"of", "on", "or", "such", "that", "the", "their", "then", "there", "these", "they", "this", "to", "was", "will", "with":
		return true
	}
	return false
}
