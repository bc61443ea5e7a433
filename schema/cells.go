package schema

import (
	"slices"
	"strings"

	"lectern/analysis"
	"lectern/api"
	"lectern/order"
)

// Cells tells what is kept of a document: P8.3.
func Cells(s api.Schema, d api.Doc) ([]api.Cell, api.Errno) {
	if e := Check(s); e != api.OK {
		return nil, e
	}
	if len(d.Entries) > api.MaxEntries {
		return nil, api.ErrMany
	}
	out := make([]api.Cell, len(d.Entries))
	asks := questions(s)
	for i, entry := range d.Entries {
		for _, ask := range asks {
			if e := ask(entry, &out[i]); e != api.OK {
				return nil, e
			}
		}
	}
	return out, api.OK
}

// question asks an entry whether it is right in one way, and puts into its cell what that tells of it.
type question func(entry api.Entry, cell *api.Cell) api.Errno

// questions makes what the entries of one document are asked, each question leaning on those ahead of it. They remember the entries that they were asked of: another document needs others.
func questions(s api.Schema) []question {
	return []question{named(s), shaped(s), single(s), valued(s)}
}

// named asks whether there is a field of the entry's name.
func named(s api.Schema) question {
	return func(entry api.Entry, cell *api.Cell) api.Errno {
		field, ok := Find(s, entry.Field)
		if !ok {
			return api.ErrField
		}
		cell.Field = field
		return api.OK
	}
}

// shaped asks whether the entry is of the field's kind.
func shaped(s api.Schema) question {
	return func(entry api.Entry, cell *api.Cell) api.Errno {
		if !has(given(s.Fields[cell.Field]), entry.Text, entry.Numbers) {
			return api.ErrKind
		}
		return api.OK
	}
}

// single asks whether the entry is its field's first one, unless the field may have several.
func single(s api.Schema) question {
	var ahead [api.MaxFields]bool
	return func(_ api.Entry, cell *api.Cell) api.Errno {
		if ahead[cell.Field] && !s.Fields[cell.Field].Many {
			return api.ErrMany
		}
		ahead[cell.Field] = true
		return api.OK
	}
}

// valued asks whether the entry's value may be kept.
func valued(s api.Schema) question {
	var tokens [api.MaxFields]int
	return func(entry api.Entry, cell *api.Cell) api.Errno {
		f := s.Fields[cell.Field]
		switch f.Kind {
		case api.KText:
			l, e := analysis.Run(f.Chain, entry.Text) // it refuses what is too long
			tokens[cell.Field] += len(l)
			if e != api.OK || tokens[cell.Field] > api.MaxTokens {
				return api.ErrValue
			}
			cell.Text = strings.Clone(entry.Text)
		case api.KKeyword:
			if len(entry.Text) > api.MaxKeyword {
				return api.ErrValue
			}
			cell.Text = strings.Clone(entry.Text)
		case api.KDecimal:
			n, e := order.Decimal(entry.Text, f.Scale)
			if e != api.OK {
				return api.ErrValue
			}
			cell.Numbers = []int64{n}
		case api.KNumber, api.KPoint:
			cell.Numbers = slices.Clone(entry.Numbers)
		}
		return api.OK
	}
}

// Back tells the document that has these cells: P8.4.
func Back(s api.Schema, cells []api.Cell) (api.Doc, api.Errno) {
	if e := Check(s); e != api.OK {
		return api.Doc{}, e
	}
	if slices.ContainsFunc(cells, func(c api.Cell) bool { return !within(c.Field, 0, len(s.Fields)-1) }) {
		return api.Doc{}, api.ErrField
	}
	if slices.ContainsFunc(cells, func(c api.Cell) bool { return !has(kept(s.Fields[c.Field]), c.Text, c.Numbers) }) {
		return api.Doc{}, api.ErrKind
	}
	out := make([]api.Entry, len(cells))
	for i, c := range cells {
		out[i] = entryOf(s.Fields[c.Field], c)
	}
	return api.Doc{Entries: out}, api.OK
}

// entryOf tells the entry of a cell that is of the field's kind.
func entryOf(f api.Field, c api.Cell) api.Entry {
	out := api.Entry{Field: f.Name, Text: c.Text, Numbers: c.Numbers}
	if f.Kind == api.KDecimal {
		out.Text, _ = order.Text(c.Numbers[0], f.Scale) // the scale is one: the schema may be
		out.Numbers = nil
	}
	return copied(out)
}

// given tells how many numbers a field's entries have; none, if they have a text.
func given(f api.Field) int {
	switch f.Kind {
	case api.KNumber:
		return 1
	case api.KPoint:
		return f.Dims
	}
	return 0
}

// kept tells likewise of a field's cells: of a decimal, which is given as a text, a number is kept.
func kept(f api.Field) int {
	if f.Kind == api.KDecimal {
		return 1
	}
	return given(f)
}

// has tells whether a value has that many numbers and no text, or, if it is to have none, at most a text.
func has(n int, text string, numbers []int64) bool {
	return len(numbers) == n && (n == 0 || text == "")
}
