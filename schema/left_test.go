package schema_test

import (
	"fmt"
	"math"
	"slices"
	"strings"
	"testing"

	"lectern/api"
	"lectern/schema"
)

// toldTokens tells tokens, as many as can be read.
func toldTokens(l []api.Token) string {
	out := fmt.Sprintf("%d tokens", len(l))
	for _, k := range l[:min(len(l), 12)] {
		out += fmt.Sprintf(", %+.40q %d %d-%d", k.Text, k.Pos, k.From, k.To)
	}
	return out
}

// wantTokens fails unless Tokens answers that of a field.
func wantTokens(t *testing.T, s api.Schema, field int, cells []api.Cell, want []api.Token) {
	t.Helper()
	if got := schema.Tokens(s, field, cells); !slices.Equal(got, want) {
		t.Fatalf("Tokens(%d, %s) = %s, want %s", field, told(cells), toldTokens(got), toldTokens(want))
	}
}

func token(text string, pos, from, to int) api.Token {
	return api.Token{Text: text, Pos: pos, From: from, To: to}
}

func TestTokens(t *testing.T) {
	s := five()
	a, b, c := token("a", 0, 0, 1), token("b", 1, 2, 3), token("c", 102, 0, 1)
	wantTokens(t, s, 0, list(textC(0, "a b"), textC(0, "c")), list(a, b, c))
	wantTokens(t, s, 0, list(textC(0, "A B")), list(a, b))
	wantTokens(t, s, 0, nil, nil)
	wantTokens(t, s, 0, list(textC(0, ""), textC(0, " ")), nil)
	wantTokens(t, s, 0, list(textC(1, "x"), textC(0, "a b"), numC(2, 5), textC(1, "y z"), textC(0, "c"), textC(-1, "x"), textC(9, "x")), list(a, b, c))
	// Cells without tokens leave the positions as they are, wherever they stand.
	wantTokens(t, s, 0, list(textC(0, ""), textC(0, "."), textC(0, "a b"), textC(0, ""), textC(0, " "), textC(0, "c"), textC(0, "")), list(a, b, c))
	wantTokens(t, s, 0, list(textC(0, "a"), textC(0, "a"), textC(0, "a b"), textC(0, "a")),
		list(a, token("a", 101, 0, 1), token("a", 202, 0, 1), token("b", 203, 2, 3), token("a", 304, 0, 1)))
	// A cell's numbers don't matter, and whether the field may have several cells doesn't either.
	wantTokens(t, s, 0, list(api.Cell{Field: 0, Text: "a b", Numbers: nums(1, 2)}, textC(0, "c")), list(a, b, c))
	one := of(api.Field{Name: "t", Kind: api.KText, Chain: []int{api.TLetters}})
	wantTokens(t, one, 0, list(textC(0, "a b"), textC(0, "c")), list(a, b, c))
}

// TestTokensGaps: P8.5: positions go on from the last token's, not from the number of tokens or the words that were left out.
func TestTokensGaps(t *testing.T) {
	stops := of(api.Field{Name: "k", Kind: api.KKeyword}, api.Field{Name: "t", Kind: api.KText, Chain: []int{api.TLetters, api.FStop}, Many: true})
	wantTokens(t, stops, 1, list(textC(1, "the fox of the"), textC(1, "of it"), textC(1, "to be dog")),
		list(token("fox", 1, 4, 7), token("dog", 104, 6, 9)))
	wantTokens(t, stops, 1, list(textC(1, "of it"), textC(1, "the fox")), list(token("fox", 1, 4, 7)))
	grams := of(api.Field{Name: "t", Kind: api.KText, Chain: []int{api.TLetters, api.FGrams2}, Many: true})
	wantTokens(t, grams, 0, list(textC(0, "abc"), textC(0, "x abc")),
		list(token("ab", 0, 0, 3), token("bc", 0, 0, 3), token("x", 101, 0, 1), token("ab", 102, 2, 5), token("bc", 102, 2, 5)))
}

// TestTokensRefused: P8.5: a text that Run refuses has no tokens.
func TestTokensRefused(t *testing.T) {
	s := five()
	long := strings.Repeat("a ", 2049)
	a, c := token("a", 0, 0, 1), token("c", 101, 0, 1)
	wantTokens(t, s, 0, list(textC(0, long)), nil)
	wantTokens(t, s, 0, list(textC(0, long), textC(0, "a"), textC(0, long), textC(0, "c"), textC(0, long)), list(a, c))
	grams := of(api.Field{Name: "t", Kind: api.KText, Chain: []int{api.TWhole, api.FGrams3, api.FGrams2}})
	wantTokens(t, grams, 0, list(textC(0, strings.Repeat("x", 2051)), textC(0, "a"), textC(0, strings.Repeat("x", 4096)), textC(0, "c")), list(a, c))
	// All cells together may have more tokens than a document may.
	full := schema.Tokens(s, 0, slices.Repeat(list(textC(0, long[2:])), 40))
	if len(full) != 40*2048 || full[len(full)-1] != token("a", 40*2048+39*100-1, 4094, 4095) {
		t.Errorf("%d tokens, the last one %+v", len(full), full[len(full)-1:])
	}
}

func TestTokensOfNone(t *testing.T) {
	cells := list(textC(0, "a"), textC(1, "a"), textC(-1, "a"), textC(5, "a"), textC(math.MinInt, "a"), textC(math.MaxInt, "a"), textC(1<<32, "a"))
	for i := range 4 {
		cells = append(cells, textC(i+1, "a b"))
	}
	for _, field := range []int{math.MinInt, -1, 1, 2, 3, 4, 5, 6, 16, 1 << 32, math.MaxInt} {
		wantTokens(t, five(), field, cells, nil)
	}
	for _, s := range wrong() {
		for field := -2; field < 20; field++ {
			wantTokens(t, s, field, cells, nil)
		}
	}
}

// TestTokensModel: P8.5, of any cells.
func TestTokensModel(t *testing.T) {
	for _, s := range []api.Schema{five(), broad()} {
		for _, l := range someCells(s, 2000, 12) {
			for field := range 5 {
				wantTokens(t, s, field, l, tokensIn(s, field, l))
			}
		}
	}
}

// wantStored fails unless Stored answers that of a document.
func wantStored(t *testing.T, s api.Schema, d api.Doc, want []api.Entry) {
	t.Helper()
	if got := schema.Stored(s, d); !sameEntries(got, want) {
		t.Fatalf("Stored(%s) = %s, want %s", told(d.Entries), told(got), told(want))
	}
}

func TestStored(t *testing.T) {
	wantStored(t, five(), doc(textE("t", "x"), numE("p", 1, 2)), list(numE("p", 1, 2)))
	wantStored(t, five(), doc(textE("t", "x"), textE("k", "a")), nil)
	wantStored(t, five(), doc(), nil)
	wantStored(t, api.Schema{}, doc(textE("t", "x"), textE("", "")), nil)
	// Entries that no document may have are told as they are.
	odd := api.Entry{Field: "p", Text: strings.Repeat("x", 5000), Numbers: nums(1, 2, 3)}
	wantStored(t, five(), doc(odd, textE("x", "y"), numE("p"), textE("P", ""), odd), list(odd, numE("p"), odd))
	wantStored(t, five(), doc(slices.Repeat(list(odd, textE("t", "")), 100)...), slices.Repeat(list(odd), 100))
	all := five()
	for i := range all.Fields {
		all.Fields[i].Stored = true
	}
	mixed := list(textE("d", "1.5"), textE("t", "a"), textE("d", "x"), numE("n", 3), textE("k", ""), textE("t", "b"), numE("n", 3))
	wantStored(t, all, doc(mixed...), mixed)
}

// TestStoredFirst: P8.6: of several fields of a name the first one tells, in schemas that may not be too.
func TestStoredFirst(t *testing.T) {
	s := of(api.Field{Name: "a", Stored: true}, api.Field{Name: "b"}, api.Field{Name: "a"}, api.Field{Name: "b", Stored: true}, api.Field{Name: "", Kind: 99, Stored: true}, api.Field{Name: "\xff", Stored: true})
	wantStored(t, s, doc(textE("b", "1"), textE("a", "2"), textE("", "3"), textE("c", "4"), textE("\xff", "5"), textE("a", "6")),
		list(textE("a", "2"), textE("", "3"), textE("\xff", "5"), textE("a", "6")))
}

// TestStoredModel: P8.6, of any documents.
func TestStoredModel(t *testing.T) {
	for _, s := range append(wrong(), five(), broad()) {
		for _, d := range someDocs(broad(), 400, 8) {
			wantStored(t, s, d, storedOf(s, d))
		}
	}
}
