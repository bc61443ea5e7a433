package schema_test

import (
	"fmt"
	"math"
	"math/big"
	"regexp"
	"slices"
	"strings"

	"lectern/analysis"
	"lectern/api"
	"lectern/order"
)

// The model of this file tells which schemas may be by a form that a field, told as a text, must have, and gathers all errors that apply to an entry ahead of picking one.

// dice throws numbers by a rule of their own, the same ones each time.
type dice uint64

func (x *dice) below(n int) int {
	*x = *x*6364136223846793005 + 1442695040888963407
	return int(uint64(*x) >> 33 % uint64(n))
}

func pick[T any](x *dice, l []T) T { return l[x.below(len(l))] }

// shuffled tells a row in another order.
func shuffled[T any](x *dice, l []T) []T {
	out := slices.Clone(l)
	for i := range out {
		j := i + x.below(len(out)-i)
		out[i], out[j] = out[j], out[i]
	}
	return out
}

// nums tells a row of numbers.
func nums(l ...int64) []int64 { return l }

// doc tells a document of these entries.
func doc(l ...api.Entry) api.Doc { return api.Doc{Entries: l} }

// textE and numE tell an entry with a text, or with numbers; textC and numC a cell.
func textE(field, text string) api.Entry      { return api.Entry{Field: field, Text: text} }
func numE(field string, l ...int64) api.Entry { return api.Entry{Field: field, Numbers: l} }
func textC(field int, text string) api.Cell   { return api.Cell{Field: field, Text: text} }
func numC(field int, l ...int64) api.Cell     { return api.Cell{Field: field, Numbers: l} }

func list[T any](l ...T) []T { return l }

// of tells a schema of these fields.
func of(l ...api.Field) api.Schema { return api.Schema{Fields: l} }

// five is the schema of the chapter's examples.
func five() api.Schema {
	return of(
		api.Field{Name: "t", Kind: api.KText, Chain: []int{api.TLetters, api.FLower}, Many: true},
		api.Field{Name: "k", Kind: api.KKeyword},
		api.Field{Name: "n", Kind: api.KNumber},
		api.Field{Name: "d", Kind: api.KDecimal, Scale: 2},
		api.Field{Name: "p", Kind: api.KPoint, Dims: 2, Stored: true},
	)
}

// broad is a schema with as many fields as may be, of all kinds.
func broad() api.Schema {
	return of(
		api.Field{Name: "t", Kind: api.KText, Chain: []int{api.TLetters}, Many: true, Stored: true},
		api.Field{Name: "t1", Kind: api.KText, Chain: []int{api.TSpaces, api.FLower, api.FStop}},
		api.Field{Name: "t2", Kind: api.KText, Chain: []int{api.TGrams, api.FMarks}, Many: true},
		api.Field{Name: "_whole", Kind: api.KText, Chain: []int{api.TWhole}, Stored: true},
		api.Field{Name: "k", Kind: api.KKeyword, Many: true, Stored: true},
		api.Field{Name: "k1", Kind: api.KKeyword},
		api.Field{Name: "n", Kind: api.KNumber, Many: true},
		api.Field{Name: "n1", Kind: api.KNumber, Stored: true},
		api.Field{Name: "d0", Kind: api.KDecimal, Many: true},
		api.Field{Name: "d2", Kind: api.KDecimal, Scale: 2, Many: true, Stored: true},
		api.Field{Name: "d9", Kind: api.KDecimal, Scale: 9},
		api.Field{Name: "p1", Kind: api.KPoint, Dims: 1, Many: true},
		api.Field{Name: "p2", Kind: api.KPoint, Dims: 2},
		api.Field{Name: "p3", Kind: api.KPoint, Dims: 3, Many: true, Stored: true},
		api.Field{Name: "p4", Kind: api.KPoint, Dims: 4, Many: true},
		api.Field{Name: "abcdefghijklmnopqrstuvw_", Kind: api.KKeyword, Many: true},
	)
}

// wrong tells schemas that may not be.
func wrong() []api.Schema {
	few := five()
	twice := of(few.Fields[0], few.Fields[1], few.Fields[0])
	chainless, upper := five(), five()
	chainless.Fields[0].Chain = nil
	upper.Fields[3].Name = "D"
	many := broad()
	many.Fields = append(many.Fields, api.Field{Name: "more", Kind: api.KNumber})
	return []api.Schema{{}, of(), twice, chainless, upper, many}
}

var nameForm = regexp.MustCompile(`\A[a-z_][a-z0-9_]{0,23}\z`)

// fieldForm is the form of a field's kind, whether its chain is none, a chain or another row, its scale and its dims.
var fieldForm = regexp.MustCompile(`\A(1 chain 0 0|[23] none 0 0|4 none [0-9] 0|5 none 0 [1-4])\z`)

// isField, as the chapter tells which fields a schema may have.
func isField(f api.Field) bool {
	chain := "other"
	if len(f.Chain) == 0 {
		chain = "none"
	} else if analysis.Check(f.Chain) == api.OK {
		chain = "chain"
	}
	return nameForm.MatchString(f.Name) && fieldForm.MatchString(fmt.Sprintf("%d %s %d %d", f.Kind, chain, f.Scale, f.Dims))
}

// isSchema, as the chapter tells it.
func isSchema(s api.Schema) bool {
	names := map[string]int{}
	for _, f := range s.Fields {
		names[f.Name]++
		if !isField(f) {
			return false
		}
	}
	return len(names) == len(s.Fields) && slices.Contains([]int{1, 2, 3, 4, 5, 6, 7, 8, 9, 10, 11, 12, 13, 14, 15, 16}, len(names))
}

// fieldOf tells the first field of a name, and its number: -1, if there is none.
func fieldOf(s api.Schema, name string) (api.Field, int) {
	for i, f := range s.Fields {
		if f.Name == name {
			return f, i
		}
	}
	return api.Field{}, -1
}

// numbersOf tells how many numbers an entry of a field has, and whether it may have a text.
func numbersOf(f api.Field) (int, bool) {
	return []int{0, 0, 0, 1, 0, f.Dims}[f.Kind], f.Kind != api.KNumber && f.Kind != api.KPoint
}

// tokensOf tells how many tokens a text has: more than may be, if there are too many behind some link.
func tokensOf(f api.Field, text string) int {
	l, e := analysis.Run(f.Chain, text)
	if e == api.ErrMany {
		return 1 << 20
	}
	return len(l)
}

// decimalForm tells whether a text is a decimal of a scale that has a number.
func decimalForm(text string, scale int) bool {
	form := `\A-?(0|[1-9][0-9]{0,18})\z`
	if scale > 0 {
		form = fmt.Sprintf(`\A-?(0|[1-9][0-9]{0,18})(\.[0-9]{1,%d})?\z`, scale)
	}
	if !regexp.MustCompile(form).MatchString(text) {
		return false
	}
	x, _ := new(big.Rat).SetString(text)
	x.Mul(x, new(big.Rat).SetInt(new(big.Int).Exp(big.NewInt(10), big.NewInt(int64(scale)), nil)))
	return x.Num().IsInt64()
}

// unkept: may the entry's value, which is of its field's kind, not be kept, behind these entries?
func unkept(s api.Schema, ahead []api.Entry, entry api.Entry) bool {
	f, _ := fieldOf(s, entry.Field)
	switch f.Kind {
	case api.KText:
		all := 0
		for _, x := range append(slices.Clone(ahead), entry) {
			if x.Field == entry.Field {
				all += tokensOf(f, x.Text)
			}
		}
		return len(entry.Text) > 4096 || all > 4096
	case api.KKeyword:
		return len(entry.Text) > 256
	case api.KDecimal:
		return !decimalForm(entry.Text, f.Scale)
	}
	return false
}

// errorOf tells what is wrong with an entry behind these.
func errorOf(s api.Schema, ahead []api.Entry, entry api.Entry) api.Errno {
	f, i := fieldOf(s, entry.Field)
	if i < 0 {
		return api.ErrField
	}
	count, text := numbersOf(f)
	wrong := map[api.Errno]bool{
		api.ErrKind:  len(entry.Numbers) != count || !text && entry.Text != "",
		api.ErrMany:  !f.Many && slices.ContainsFunc(ahead, func(x api.Entry) bool { return x.Field == entry.Field }),
		api.ErrValue: unkept(s, ahead, entry),
	}
	for _, e := range []api.Errno{api.ErrKind, api.ErrMany, api.ErrValue} {
		if wrong[e] {
			return e
		}
	}
	return api.OK
}

// cellsOf, as the chapter tells Cells.
func cellsOf(s api.Schema, d api.Doc) ([]api.Cell, api.Errno) {
	if !isSchema(s) {
		return nil, api.ErrSchema
	}
	if len(d.Entries) > 64 {
		return nil, api.ErrMany
	}
	var out []api.Cell
	for i, x := range d.Entries {
		if e := errorOf(s, d.Entries[:i], x); e != api.OK {
			return nil, e
		}
		f, at := fieldOf(s, x.Field)
		cell := api.Cell{Field: at, Text: x.Text, Numbers: x.Numbers}
		if f.Kind == api.KDecimal {
			number, _ := order.Decimal(x.Text, f.Scale)
			cell = numC(at, number)
		}
		out = append(out, cell)
	}
	return out, api.OK
}

// docOf, as the chapter tells Back.
func docOf(s api.Schema, cells []api.Cell) (api.Doc, api.Errno) {
	if !isSchema(s) {
		return api.Doc{}, api.ErrSchema
	}
	for _, x := range cells {
		if x.Field < 0 || x.Field >= len(s.Fields) {
			return api.Doc{}, api.ErrField
		}
	}
	var out api.Doc
	for _, x := range cells {
		f := s.Fields[x.Field]
		count, text := numbersOf(f)
		if f.Kind == api.KDecimal {
			count, text = 1, false
		}
		if len(x.Numbers) != count || !text && x.Text != "" {
			return api.Doc{}, api.ErrKind
		}
		entry := api.Entry{Field: f.Name, Text: x.Text, Numbers: x.Numbers}
		if f.Kind == api.KDecimal {
			entry.Text, _ = order.Text(x.Numbers[0], f.Scale)
			entry.Numbers = nil
		}
		out.Entries = append(out.Entries, entry)
	}
	return out, api.OK
}

// tokensIn, as the chapter tells Tokens.
func tokensIn(s api.Schema, field int, cells []api.Cell) []api.Token {
	if !isSchema(s) || field < 0 || field >= len(s.Fields) || s.Fields[field].Kind != api.KText {
		return nil
	}
	var out []api.Token
	last := -101 // a token's position is 101 more, at the least
	for _, x := range cells {
		if x.Field != field {
			continue
		}
		more := last + 101
		l, _ := analysis.Run(s.Fields[field].Chain, x.Text)
		for _, k := range l {
			last = k.Pos + more
			out = append(out, api.Token{Text: k.Text, Pos: last, From: k.From, To: k.To})
		}
	}
	return out
}

// storedOf, as the chapter tells Stored.
func storedOf(s api.Schema, d api.Doc) []api.Entry {
	return slices.DeleteFunc(slices.Clone(d.Entries), func(x api.Entry) bool {
		f, _ := fieldOf(s, x.Field)
		return !f.Stored
	})
}

func sameEntry(a, b api.Entry) bool {
	return a.Field == b.Field && a.Text == b.Text && slices.Equal(a.Numbers, b.Numbers)
}

func sameEntries(a, b []api.Entry) bool { return slices.EqualFunc(a, b, sameEntry) }

func sameCell(a, b api.Cell) bool {
	return a.Field == b.Field && a.Text == b.Text && slices.Equal(a.Numbers, b.Numbers)
}

func sameCells(a, b []api.Cell) bool { return slices.EqualFunc(a, b, sameCell) }

// told tells entries or cells, as many as can be read.
func told[T any](l []T) string {
	out := fmt.Sprintf("%d", len(l))
	for _, x := range l[:min(len(l), 8)] {
		out += fmt.Sprintf(", %+.80v", x)
	}
	return out
}

// someTexts are such as entries may have, and may not.
func someTexts() []string {
	return []string{
		"", "a", "The fox", "the", "a b c", " ", "東京都 x", "e\u0301", "\u0301", "\xff", "a\x00b", "\x00", "A-b of it", "é",
		"0", "-0", "7", "1.5", "-1.25", "1.234", "01", "12.", ".5", "1e3", "9223372036854775807", "9223372036854775808", "-9223372036.854775808", "92233720368547758.08",
		strings.Repeat("k", 256), strings.Repeat("k", 257), strings.Repeat("é", 128), strings.Repeat("a ", 700), strings.Repeat("ab", 2048), strings.Repeat("ab", 2048) + "c",
	}
}

// someEntry tells an entry of a schema, which may be right or wrong in one way or another.
func someEntry(x *dice, s api.Schema) api.Entry {
	f := pick(x, s.Fields)
	out := api.Entry{Field: f.Name}
	count, text := numbersOf(f)
	switch {
	case f.Kind == api.KDecimal && x.below(8) > 0:
		out.Text, _ = order.Text(someNumber(x), f.Scale)
	case text:
		out.Text = pick(x, someTexts())
	}
	for range count {
		out.Numbers = append(out.Numbers, someNumber(x))
	}
	switch x.below(60) {
	case 0:
		out.Field = pick(x, list("", "x", "T", "t3", "\x00", "t\x00"))
	case 1:
		out.Numbers = append(out.Numbers, 7)
	case 2:
		out.Numbers = out.Numbers[:max(len(out.Numbers)-1, 0)]
	case 3:
		out.Text = pick(x, someTexts())
	case 4:
		out.Numbers = []int64{}
	}
	return out
}

func someNumber(x *dice) int64 {
	return pick(x, nums(0, 1, -1, 7, 150, -1250, 1<<40, math.MinInt64, math.MaxInt64, int64(x.below(1000))))
}

// someDocs tells documents of a schema, most of them without an error.
func someDocs(s api.Schema, many, most int) []api.Doc {
	x := dice(21)
	var out []api.Doc
	for range many {
		var d api.Doc
		for range x.below(most + 1) {
			entry := someEntry(&x, s)
			if errorOf(s, d.Entries, entry) == api.OK || x.below(10) == 0 {
				d.Entries = append(d.Entries, entry)
			}
		}
		out = append(out, d)
	}
	return out
}

// goodDocs tells those of them that have no error.
func goodDocs(s api.Schema, many, most int) []api.Doc {
	return slices.DeleteFunc(someDocs(s, many, most), func(d api.Doc) bool {
		_, e := cellsOf(s, d)
		return e != api.OK
	})
}

// someCells tells rows of cells, many of which no document has.
func someCells(s api.Schema, many, most int) [][]api.Cell {
	x := dice(22)
	odd := []int{-1, len(s.Fields), math.MinInt, math.MaxInt, 1 << 32}
	var out [][]api.Cell
	for range many {
		var l []api.Cell
		for range x.below(most + 1) {
			entry := someEntry(&x, s)
			f, at := fieldOf(s, entry.Field)
			cell := api.Cell{Field: at, Text: entry.Text, Numbers: entry.Numbers}
			if f.Kind == api.KDecimal && x.below(30) > 0 {
				cell = numC(at, someNumber(&x))
			}
			if x.below(60) == 0 {
				cell.Field = pick(&x, odd)
			}
			l = append(l, cell)
		}
		out = append(out, l)
	}
	return out
}
