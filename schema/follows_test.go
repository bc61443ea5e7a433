package schema_test

import (
	"slices"
	"strings"
	"testing"
	"unsafe"

	"lectern/api"
	"lectern/schema"
)

// mustCells tells the cells of a document without an error.
func mustCells(s api.Schema, d api.Doc) []api.Cell {
	l, e := schema.Cells(s, d)
	if e != api.OK {
		panic(e)
	}
	return l
}

// TestThereAndBack: P8.7.
func TestThereAndBack(t *testing.T) {
	for _, s := range []api.Schema{five(), broad()} {
		for _, d := range goodDocs(s, 3000, 12) {
			cells := mustCells(s, d)
			back, e := schema.Back(s, cells)
			if e != api.OK {
				t.Fatalf("Back(%s): %d", told(cells), e)
			}
			wantCells(t, s, back, cells, api.OK)
		}
	}
}

// TestWithoutEntries: P8.7: a document without an error has none without any of its entries.
func TestWithoutEntries(t *testing.T) {
	x := dice(31)
	for _, s := range []api.Schema{five(), broad()} {
		for _, d := range goodDocs(s, 1500, 12) {
			cells := mustCells(s, d)
			for range 4 {
				var fewer api.Doc
				var want []api.Cell
				for i, entry := range d.Entries {
					if x.below(3) > 0 {
						fewer.Entries = append(fewer.Entries, entry)
						want = append(want, cells[i])
					}
				}
				wantCells(t, s, fewer, want, api.OK)
			}
		}
	}
}

// TestAnyOrder: P8.8: whether a document is taken does not hang on the order of its entries, and its cells go with them.
func TestAnyOrder(t *testing.T) {
	x := dice(32)
	full := doc(slices.Concat(list(textE("t", strings.Repeat("a ", 2048)), textE("t", strings.Repeat("b ", 2047)), textE("t", "a b")), list(numE("n", 1), textE("k", "")))...)
	for _, s := range []api.Schema{five(), broad()} {
		for _, d := range append(someDocs(s, 2000, 8), full) {
			cells, e := schema.Cells(s, d)
			places := make([]int, len(d.Entries))
			for i := range places {
				places[i] = i
			}
			for range 4 {
				var turned api.Doc
				var want []api.Cell
				for _, at := range shuffled(&x, places) {
					turned.Entries = append(turned.Entries, d.Entries[at])
					if e == api.OK {
						want = append(want, cells[at])
					}
				}
				got, gotE := schema.Cells(s, turned)
				if (gotE == api.OK) != (e == api.OK) || !sameCells(got, want) {
					t.Fatalf("Cells(%s) = %s, %d, in the order %s %d", told(turned.Entries), told(got), gotE, told(d.Entries), e)
				}
			}
		}
	}
}

// memory tells a text that has the memory of these bytes.
func memory(b []byte) string { return unsafe.String(unsafe.SliceData(b), len(b)) }

// lent is a schema, a document and cells whose texts and numbers lie in memory that is used again.
type lent struct {
	schema  api.Schema
	doc     api.Doc
	cells   []api.Cell
	bytes   [][]byte
	numbers [][]int64
}

// text lends a text.
func (l *lent) text(s string) string {
	b := []byte(s)
	l.bytes = append(l.bytes, b)
	return memory(b)
}

// row lends a row of numbers with room behind it.
func (l *lent) row(numbers []int64) []int64 {
	out := append(make([]int64, 0, len(numbers)+4), numbers...)
	l.numbers = append(l.numbers, out[:cap(out)])
	return out
}

// lend lends these, with room behind each list.
func lend(s api.Schema, d api.Doc, cells []api.Cell) *lent {
	l := &lent{}
	l.schema.Fields = append(make([]api.Field, 0, len(s.Fields)+4), s.Fields...)
	for i, f := range s.Fields {
		l.schema.Fields[i].Name = l.text(f.Name)
		l.schema.Fields[i].Chain = slices.Clone(f.Chain)
	}
	l.doc.Entries = make([]api.Entry, 0, len(d.Entries)+4)
	for _, x := range d.Entries {
		l.doc.Entries = append(l.doc.Entries, api.Entry{Field: l.text(x.Field), Text: l.text(x.Text), Numbers: l.row(x.Numbers)})
	}
	l.cells = make([]api.Cell, 0, len(cells)+4)
	for _, x := range cells {
		l.cells = append(l.cells, api.Cell{Field: x.Field, Text: l.text(x.Text), Numbers: l.row(x.Numbers)})
	}
	return l
}

// spoil overwrites all that was lent.
func (l *lent) spoil() {
	for _, b := range l.bytes {
		for i := range b {
			b[i] = '!'
		}
	}
	for _, r := range l.numbers {
		for i := range r {
			r[i] = 77777
		}
	}
	for _, f := range l.schema.Fields {
		clear(f.Chain)
	}
	clear(l.schema.Fields)
	clear(l.doc.Entries)
	clear(l.cells)
}

// unchanged fails unless what was lent is as it was.
func (l *lent) unchanged(t *testing.T, s api.Schema, d api.Doc, cells []api.Cell) {
	t.Helper()
	sameField := func(a, b api.Field) bool {
		chains := slices.Equal(a.Chain, b.Chain)
		a.Chain, b.Chain = nil, nil
		return chains && a.Name == b.Name && a.Kind == b.Kind && a.Scale == b.Scale && a.Dims == b.Dims && a.Many == b.Many && a.Stored == b.Stored
	}
	if !slices.EqualFunc(l.schema.Fields, s.Fields, sameField) || !sameEntries(l.doc.Entries, d.Entries) || !sameCells(l.cells, cells) {
		t.Fatalf("what was handed in became %s; %s; %s", told(l.schema.Fields), told(l.doc.Entries), told(l.cells))
	}
	if room := l.doc.Entries[:cap(l.doc.Entries)]; !sameEntries(room[len(d.Entries):], make([]api.Entry, len(room)-len(d.Entries))) {
		t.Fatalf("behind the entries: %s", told(room))
	}
	if room := l.cells[:cap(l.cells)]; !sameCells(room[len(cells):], make([]api.Cell, len(room)-len(cells))) {
		t.Fatalf("behind the cells: %s", told(room))
	}
	for _, r := range l.numbers {
		if tail := r[len(r)-4:]; !slices.Equal(tail, make([]int64, 4)) {
			t.Fatalf("behind the numbers: %v", r)
		}
	}
}

// answers are those of all calls that answer lists.
type answers struct {
	cells  []api.Cell
	back   api.Doc
	tokens []api.Token
	stored []api.Entry
}

func ask(s api.Schema, d api.Doc, cells []api.Cell) answers {
	var a answers
	a.cells, _ = schema.Cells(s, d)
	a.back, _ = schema.Back(s, cells)
	a.tokens = schema.Tokens(s, 0, cells)
	a.stored = schema.Stored(s, d)
	return a
}

func (a answers) same(b answers) bool {
	return sameCells(a.cells, b.cells) && sameEntries(a.back.Entries, b.back.Entries) && slices.Equal(a.tokens, b.tokens) && sameEntries(a.stored, b.stored)
}

// TestMemory: P8.9: what is handed in is not changed; what was answered stays as it is when that memory is used again.
func TestMemory(t *testing.T) {
	for _, s := range []api.Schema{five(), broad()} {
		for _, d := range goodDocs(s, 600, 10) {
			cells := mustCells(s, d)
			want := ask(s, d, cells)
			l := lend(s, d, cells)
			got := ask(l.schema, l.doc, l.cells)
			schema.Check(l.schema)
			schema.Find(l.schema, l.text("d"))
			schema.Name(l.text("a_1"))
			l.unchanged(t, s, d, cells)
			l.spoil()
			if !got.same(want) {
				t.Fatalf("of %s: %s; %s; %s; %s", told(d.Entries), told(got.cells), told(got.back.Entries), toldTokens(got.tokens), told(got.stored))
			}
		}
	}
}

// numbersIn tells all lists of numbers of an answer.
func (a answers) numbersIn() [][]int64 {
	var out [][]int64
	for _, x := range a.cells {
		out = append(out, x.Numbers)
	}
	for _, x := range slices.Concat(a.back.Entries, a.stored) {
		out = append(out, x.Numbers)
	}
	return out
}

// TestOwnLists: P8.9: each list of an answer is its own: none is seen to change, whatever is done to the others or put behind them.
func TestOwnLists(t *testing.T) {
	for _, s := range []api.Schema{five(), broad()} {
		for _, d := range goodDocs(s, 400, 12) {
			cells := mustCells(s, d)
			l := lend(s, d, cells)
			a := ask(l.schema, l.doc, l.cells)
			all := a.numbersIn()
			for i, r := range all {
				for j := range r {
					r[j] = int64(i)
				}
				for j := range 8 {
					_ = append(r, make([]int64, j)...)
				}
			}
			for i, r := range all {
				if slices.ContainsFunc(r, func(n int64) bool { return n != int64(i) }) {
					t.Fatalf("the list %d of the answers became %v", i, r)
				}
			}
			clear(a.cells)
			clear(a.back.Entries)
			clear(a.tokens)
			clear(a.stored)
			l.unchanged(t, s, d, cells)
			if !ask(s, d, cells).same(ask(l.schema, l.doc, l.cells)) {
				t.Fatalf("of %s: other answers behind the first", told(d.Entries))
			}
		}
	}
}

// TestOnceMore: what one document had is forgotten at the next one.
func TestOnceMore(t *testing.T) {
	s := five()
	full := doc(textE("t", strings.Repeat("a ", 2048)), textE("t", strings.Repeat("a ", 2048)), textE("k", "a"), numE("n", 1))
	for range 3 {
		wantCells(t, s, full, list(textC(0, strings.Repeat("a ", 2048)), textC(0, strings.Repeat("a ", 2048)), textC(1, "a"), numC(2, 1)), api.OK)
		wantFault(t, api.ErrMany, textE("k", "a"), textE("k", "a"))
	}
}

// TestTogether: calls at one time don't touch each other.
func TestTogether(t *testing.T) {
	s := broad()
	docs := goodDocs(s, 50, 8)
	var want []answers
	for _, d := range docs {
		want = append(want, ask(s, d, mustCells(s, d)))
	}
	done := make(chan bool)
	for i := range 8 {
		go func() {
			good := true
			for k := range 200 {
				at := (i*31 + k) % len(docs)
				good = good && ask(s, docs[at], mustCells(s, docs[at])).same(want[at])
			}
			done <- good
		}()
	}
	for range 8 {
		if !<-done {
			t.Error("a call, beside others, answered something else")
		}
	}
}
