package schema

import (
	"iter"
	"strings"

	"lectern/analysis"
	"lectern/api"
)

// Tokens tells the tokens of a text field: P8.5.
func Tokens(s api.Schema, field int, cells []api.Cell) []api.Token {
	if Check(s) != api.OK || !within(field, 0, len(s.Fields)-1) || s.Fields[field].Kind != api.KText {
		return nil
	}
	var out []api.Token
	begin := 0
	for c := range left(cells, func(c api.Cell) bool { return c.Field == field }) {
		l, _ := analysis.Run(s.Fields[field].Chain, c.Text) // of a text that it refuses there are none
		for _, t := range l {
			t.Pos += begin
			out = append(out, t)
		}
		if len(out) > 0 {
			begin = out[len(out)-1].Pos + 1 + api.Gap
		}
	}
	return out
}

// Stored tells the entries of a document that are stored: P8.6.
func Stored(s api.Schema, d api.Doc) []api.Entry {
	stored := func(entry api.Entry) bool {
		i, ok := Find(s, entry.Field)
		return ok && s.Fields[i].Stored
	}
	var out []api.Entry
	for entry := range left(d.Entries, stored) {
		out = append(out, copied(entry))
	}
	return out
}

// left goes through what is left of a row: that of which a closure tells that it stays.
func left[T any](row []T, stays func(x T) bool) iter.Seq[T] {
	return func(yield func(x T) bool) {
		for _, x := range row {
			if stays(x) && !yield(x) {
				return
			}
		}
	}
}

// copied tells an entry that shares no memory with this one.
func copied(entry api.Entry) api.Entry {
	numbers := append([]int64(nil), entry.Numbers...) // a clone of an empty list would still point at it
	return api.Entry{Field: strings.Clone(entry.Field), Text: strings.Clone(entry.Text), Numbers: numbers}
}
