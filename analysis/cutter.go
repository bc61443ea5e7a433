package analysis

import (
	"iter"

	"lectern/api"
	"lectern/fold"
)

// cutter is a tokenizer: it puts where each token of a text begins and ends.
type cutter func(text string, put func(from, to int))

// cutterOf finds the tokenizer of a number: nil, if it is none's.
func cutterOf(number int) cutter {
	switch number {
	case api.TLetters:
		return letters()
	case api.TSpaces:
		solid := func(r rune) bool { return !Blank(r) }
		return runs(solid, solid)
	case api.TWhole:
		return whole
	case api.TGrams:
		return pairs
	}
	return nil
}

// letters cuts by TLetters.
func letters() cutter {
	begins := func(r rune) bool { return fold.Letter(r) || fold.Digit(r) }
	return runs(begins, func(r rune) bool { return begins(r) || fold.Mark(r) })
}

// runs cuts runs, as long as can be, of runes that a run may have, each from its first rune on with which one may begin.
func runs(begins, has func(r rune) bool) cutter {
	return func(text string, put func(from, to int)) {
		const none = -1
		from := none
		for at, r := range fold.Runes(text) {
			if from == none && begins(r) {
				from = at
			}
			if from != none && !has(r) {
				put(from, at)
				from = none
			}
		}
		if from != none {
			put(from, len(text))
		}
	}
}

// whole cuts by TWhole.
func whole(text string, put func(from, to int)) {
	if text != "" {
		put(0, len(text))
	}
}

// pairs cuts by TGrams.
func pairs(text string, put func(from, to int)) {
	letters()(text, func(begin, end int) {
		for from, to := range grams(text[begin:end], 2) {
			put(begin+from, begin+to)
		}
	})
}

// grams tells where each n runes of a text that stand one behind the other begin and end; of a text of no more runes, its whole.
func grams(text string, n int) iter.Seq2[int, int] {
	return func(yield func(from, to int) bool) {
		from, to := 0, behind(text, 0, n)
		for yield(from, to) && to < len(text) {
			from, to = behind(text, from, 1), behind(text, to, 1)
		}
	}
}

// behind tells the place n runes behind another one, or the text's end, if there are fewer.
func behind(text string, at, n int) int {
	for range n {
		_, size := fold.Next(text, at)
		at += size
	}
	return at
}

// Blank tells whether a rune is a blank: P6.4.
func Blank(r rune) bool {
	switch r {
	case 0x20, 0x85, 0xa0, 0x2028, 0x2029, 0x3000:
		return true
	}
	return r >= 0x9 && r <= 0xd || r >= 0x2000 && r <= 0x200a
}
