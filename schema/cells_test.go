package schema_test

import (
	"math"
	"slices"
	"strings"
	"testing"

	"lectern/api"
	"lectern/schema"
)

// wantCells fails unless Cells answers that of a document.
func wantCells(t *testing.T, s api.Schema, d api.Doc, want []api.Cell, wantE api.Errno) {
	t.Helper()
	if got, e := schema.Cells(s, d); !sameCells(got, want) || e != wantE {
		t.Fatalf("Cells(%s) = %s, %d, want %s, %d", told(d.Entries), told(got), e, told(want), wantE)
	}
}

// wantFault fails unless Cells answers that error of these entries of the examples' schema.
func wantFault(t *testing.T, wantE api.Errno, l ...api.Entry) {
	t.Helper()
	wantCells(t, five(), doc(l...), nil, wantE)
}

func TestCells(t *testing.T) {
	wantCells(t, five(), doc(textE("t", "The fox"), numE("n", 5), textE("d", "1.5"), numE("p", 1, 2)),
		list(textC(0, "The fox"), numC(2, 5), numC(3, 150), numC(4, 1, 2)), api.OK)
	wantCells(t, five(), doc(), nil, api.OK)
	wantCells(t, five(), api.Doc{Entries: []api.Entry{}}, nil, api.OK)
	wantCells(t, five(), doc(textE("k", ""), textE("t", ""), textE("t", "\x00\xff"), textE("d", "-0"), textE("t", "")),
		list(textC(1, ""), textC(0, ""), textC(0, "\x00\xff"), numC(3, 0), textC(0, "")), api.OK)
	wantCells(t, five(), doc(numE("p", math.MinInt64, math.MaxInt64), numE("n", math.MinInt64), textE("k", "\xff")),
		list(numC(4, math.MinInt64, math.MaxInt64), numC(2, math.MinInt64), textC(1, "\xff")), api.OK)
	wantCells(t, five(), doc(api.Entry{Field: "k", Text: "a", Numbers: []int64{}}, api.Entry{Field: "d", Text: "-0.07", Numbers: []int64{}}),
		list(textC(1, "a"), numC(3, -7)), api.OK)
	wantCells(t, broad(), doc(numE("p4", 1, 2, 3, 4), numE("p1", 9), numE("p1", 8), textE("d0", "7"), textE("d9", "0.000000001"), textE("d0", "7"), textE("abcdefghijklmnopqrstuvw_", "x")),
		list(numC(14, 1, 2, 3, 4), numC(11, 9), numC(11, 8), numC(8, 7), numC(10, 1), numC(8, 7), textC(15, "x")), api.OK)
}

func TestCellsFaults(t *testing.T) {
	long := strings.Repeat("x", 257)
	for _, name := range []string{"x", "", "T", "k ", "t\x00", "5", "\xff"} {
		wantFault(t, api.ErrField, textE(name, "a"))
		wantFault(t, api.ErrField, numE(name, 1))
	}
	for _, entry := range []api.Entry{
		{Field: "n", Text: "5"}, {Field: "n"}, numE("n", 1, 2), {Field: "n", Text: "a", Numbers: nums(1)}, {Field: "n", Text: "\x00", Numbers: nums(1)}, {Field: "n", Numbers: []int64{}},
		numE("p", 1), numE("p"), numE("p", 1, 2, 3), {Field: "p", Text: "a", Numbers: nums(1, 2)}, {Field: "p", Text: "1 2"}, {Field: "p", Numbers: make([]int64, 1<<16)},
		numE("t", 1), {Field: "t", Text: "a", Numbers: nums(1)}, numE("k", 1), {Field: "k", Text: "a", Numbers: nums(0)}, numE("d", 150), {Field: "d", Text: "1.5", Numbers: nums(150)},
	} {
		wantFault(t, api.ErrKind, entry)
	}
	wantFault(t, api.ErrMany, textE("k", "a"), textE("k", "a"))
	wantFault(t, api.ErrMany, textE("k", "a"), textE("t", "x"), textE("k", "b"))
	wantFault(t, api.ErrMany, numE("n", 1), numE("n", 2))
	wantFault(t, api.ErrMany, numE("p", 1, 2), numE("p", 1, 2))
	wantFault(t, api.ErrMany, textE("d", "1"), textE("d", "2"))
	for _, text := range []string{"1.234", "", "01", ".5", "5.", "x", "-", "1e3", " 1", "1 ", "92233720368547758.08", "9223372036854775808"} {
		wantFault(t, api.ErrValue, textE("d", text))
	}
	wantFault(t, api.ErrValue, textE("k", long))
	wantFault(t, api.ErrValue, textE("k", strings.Repeat("é", 129)))
	wantFault(t, api.ErrValue, textE("t", strings.Repeat("x", 4097)))
	wantFault(t, api.ErrValue, textE("t", strings.Repeat(" ", 4097)))
	wantFault(t, api.ErrValue, textE("t", strings.Repeat("é", 2049)))
	wantFault(t, api.ErrValue, textE("t", strings.Repeat("x", 1<<20)))
	wantCells(t, five(), doc(textE("k", long[1:])), list(textC(1, long[1:])), api.OK)
	wantCells(t, five(), doc(textE("k", strings.Repeat("é", 128))), list(textC(1, strings.Repeat("é", 128))), api.OK)
	full := strings.Repeat("x", 4096)
	wantCells(t, five(), doc(textE("t", full), textE("t", full)), list(textC(0, full), textC(0, full)), api.OK)
}

// TestCellsOneEntry: P8.3: which of several errors of an entry goes first.
func TestCellsOneEntry(t *testing.T) {
	wantFault(t, api.ErrField, api.Entry{Field: "x", Text: strings.Repeat("x", 5000), Numbers: nums(1, 2)})
	wantFault(t, api.ErrKind, textE("k", "a"), api.Entry{Field: "k", Text: strings.Repeat("x", 257), Numbers: nums(1)})
	wantFault(t, api.ErrKind, textE("d", "1"), api.Entry{Field: "d", Text: "x", Numbers: nums(1)})
	wantFault(t, api.ErrKind, numE("n", 1), numE("n"))
	wantFault(t, api.ErrKind, api.Entry{Field: "t", Text: strings.Repeat("x", 4097), Numbers: nums(1)})
	wantFault(t, api.ErrMany, textE("k", "a"), textE("k", strings.Repeat("x", 257)))
	wantFault(t, api.ErrMany, textE("d", "1"), textE("d", "x"))
	one := of(api.Field{Name: "t", Kind: api.KText, Chain: []int{api.TSpaces}})
	wantCells(t, one, doc(textE("t", "a"), textE("t", strings.Repeat("x", 4097))), nil, api.ErrMany)
	wantCells(t, one, doc(textE("t", strings.Repeat("a ", 2048)), textE("t", "a")), nil, api.ErrMany)
}

// TestCellsManyEntries: P8.3: the first entry with an error tells it, whatever the others have.
func TestCellsManyEntries(t *testing.T) {
	faults := []struct {
		entry api.Entry
		want  api.Errno
	}{
		{textE("x", "a"), api.ErrField}, {textE("n", "a"), api.ErrKind}, {textE("k", "a"), api.ErrMany}, {textE("d", "x"), api.ErrValue},
	}
	for _, a := range faults {
		for _, b := range faults {
			wantFault(t, a.want, textE("k", "k"), a.entry, b.entry)
			wantFault(t, a.want, textE("t", "a"), textE("k", "k"), a.entry, textE("t", "b"), b.entry, numE("p"))
		}
	}
	wantFault(t, api.ErrValue, textE("k", strings.Repeat("x", 257)), textE("k", "a"))
}

// TestCellsErrors: P8.3: what is told ahead of all entries.
func TestCellsErrors(t *testing.T) {
	many := slices.Repeat(list(textE("t", "a")), 64)
	cells := slices.Repeat(list(textC(0, "a")), 64)
	wantCells(t, five(), doc(many...), cells, api.OK)
	wantFault(t, api.ErrMany, append(slices.Clone(many), textE("t", "a"))...)
	wantFault(t, api.ErrMany, append(list(textE("x", "a")), many...)...)
	wantFault(t, api.ErrMany, append(list(numE("n"), textE("d", "x")), many...)...)
	wantFault(t, api.ErrMany, make([]api.Entry, 65)...)
	wantFault(t, api.ErrMany, make([]api.Entry, 1<<16)...)
	wantFault(t, api.ErrField, make([]api.Entry, 64)...)
	for _, s := range wrong() {
		for _, d := range []api.Doc{doc(), doc(textE("t", "a")), doc(textE("x", "")), doc(numE("t"), numE("n")), doc(make([]api.Entry, 65)...)} {
			wantCells(t, s, d, nil, api.ErrSchema)
		}
	}
}

// TestCellsTokens: P8.3: all texts of a field together have at most so many tokens.
func TestCellsTokens(t *testing.T) {
	words := func(n int) string { return strings.Repeat("a ", n) }
	of2048 := textE("t", words(2048))
	fits := func(want api.Errno, s api.Schema, l ...api.Entry) {
		t.Helper()
		_, e := schema.Cells(s, doc(l...))
		if model, modelE := cellsOf(s, doc(l...)); e != want || modelE != want {
			t.Fatalf("Cells(%s) = %d, want %d; the model: %s, %d", told(l), e, want, told(model), modelE)
		}
	}
	fits(api.OK, five(), of2048, of2048)
	fits(api.ErrValue, five(), of2048, of2048, textE("t", "a"))
	fits(api.ErrValue, five(), textE("t", "a"), of2048, of2048)
	fits(api.ErrValue, five(), of2048, of2048, textE("t", "a"), textE("x", ""))
	fits(api.ErrField, five(), of2048, of2048, textE("x", ""), textE("t", "a"))
	fits(api.OK, five(), of2048, of2048, textE("t", ""), textE("t", " ,."), textE("k", "a"))
	fits(api.OK, five(), slices.Repeat(list(textE("t", words(64))), 64)...)
	fits(api.ErrValue, five(), append(slices.Repeat(list(textE("t", words(64))), 63), textE("t", words(65)))...)
	two := of(
		api.Field{Name: "t", Kind: api.KText, Chain: []int{api.TLetters}, Many: true},
		api.Field{Name: "u", Kind: api.KText, Chain: []int{api.TSpaces, api.FStop}, Many: true})
	fits(api.OK, two, of2048, textE("u", strings.Repeat("b ", 2048)), of2048, textE("u", strings.Repeat("b ", 2048)))
	fits(api.ErrValue, two, of2048, textE("u", strings.Repeat("b ", 2048)), of2048, textE("u", strings.Repeat("b ", 2048)), textE("u", "b"))
	fits(api.OK, two, slices.Repeat(list(textE("u", words(2048))), 64)...) // words that FStop leaves out don't count
	grams := func(chain ...int) api.Schema {
		return of(api.Field{Name: "t", Kind: api.KText, Chain: chain, Many: true})
	}
	fits(api.OK, grams(api.TWhole, api.FGrams3, api.FGrams2), textE("t", strings.Repeat("x", 2050)))
	fits(api.ErrValue, grams(api.TWhole, api.FGrams3, api.FGrams2), textE("t", strings.Repeat("x", 2051)))
	fits(api.ErrValue, grams(api.TWhole, api.FGrams3, api.FGrams2), textE("t", strings.Repeat("x", 2050)), textE("t", "x"))
	fits(api.ErrValue, grams(api.TWhole, api.FGrams3, api.FGrams2, api.FStop), textE("t", strings.Repeat("is", 1026))) // too many behind a link between
}

// TestCellsModel: P8.3, of any documents.
func TestCellsModel(t *testing.T) {
	good, bad := 0, map[api.Errno]int{}
	for _, s := range []api.Schema{five(), broad()} {
		for _, d := range someDocs(s, 3000, 10) {
			want, e := cellsOf(s, d)
			wantCells(t, s, d, want, e)
			if e == api.OK {
				good++
			}
			bad[e]++
		}
	}
	if good < 1000 || min(bad[api.ErrField], bad[api.ErrKind], bad[api.ErrMany], bad[api.ErrValue]) < 20 {
		t.Errorf("%d documents without an error; %v", good, bad)
	}
}
