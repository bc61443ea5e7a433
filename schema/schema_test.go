package schema_test

import (
	"fmt"
	"math"
	"slices"
	"strings"
	"testing"

	"lectern/api"
	"lectern/schema"
)

func TestName(t *testing.T) {
	for _, x := range []struct {
		text string
		want bool
	}{
		{"a_1", true}, {"1a", false}, {"A", false}, {"", false},
		{"a", true}, {"z", true}, {"_", true}, {"__", true}, {"_1", true}, {"a0", true}, {"a9z", true}, {"0", false}, {"9_", false}, {"aA", false}, {"a-b", false}, {"a b", false}, {" a", false}, {"a ", false}, {"a\n", false},
		{"#", false}, {"a.b", false}, {"é", false}, {"aé", false}, {"\xff", false}, {"a\xff", false}, {"a\x00", false}, {"\x00", false}, {"a\u0301", false}, {"а", false}, {"٣", false}, {"a٣", false}, {"ａ", false},
		{strings.Repeat("a", 24), true}, {strings.Repeat("a", 25), false}, {strings.Repeat("_", 23) + "9", true}, {"1" + strings.Repeat("a", 23), false}, {strings.Repeat("é", 12), false}, {strings.Repeat("a", 1<<20), false},
	} {
		if got := schema.Name(x.text); got != x.want {
			t.Errorf("Name(%.40q) = %t", x.text, got)
		}
	}
}

// TestNameBytes: P8.1, of any byte at any place of names of all lengths.
func TestNameBytes(t *testing.T) {
	for size := range 30 {
		name := "_bcdefghijklmnopqrstuvwxyz01234"[:size]
		for at := range size {
			for b := range 256 {
				s := name[:at] + string([]byte{byte(b)}) + name[at+1:]
				if got, want := schema.Name(s), nameForm.MatchString(s); got != want {
					t.Errorf("Name(%q) = %t", s, got)
				}
			}
		}
	}
}

// wantCheck fails unless Check answers of a schema what the model does.
func wantCheck(t *testing.T, s api.Schema) {
	t.Helper()
	want := api.ErrSchema
	if isSchema(s) {
		want = api.OK
	}
	if got := schema.Check(s); got != want {
		t.Fatalf("Check(%s) = %d, want %d", told(s.Fields), got, want)
	}
}

func TestCheck(t *testing.T) {
	for _, s := range []api.Schema{five(), broad(), of(five().Fields[1])} {
		if got := schema.Check(s); got != api.OK {
			t.Errorf("Check(%s) = %d", told(s.Fields), got)
		}
	}
	for _, s := range wrong() {
		if got := schema.Check(s); got != api.ErrSchema {
			t.Errorf("Check(%s) = %d", told(s.Fields), got)
		}
	}
	f := five().Fields
	for _, s := range []api.Schema{{}, of(f[0], f[0]), of(api.Field{Name: "t", Kind: 1, Chain: []int{1}, Dims: 1}), of(api.Field{Name: "t", Kind: 1})} {
		if got := schema.Check(s); got != api.ErrSchema {
			t.Errorf("Check(%s) = %d", told(s.Fields), got)
		}
	}
}

// TestCheckFields: P8.1, of a field of each kind with each chain, scale and number of dims, at each place.
func TestCheckFields(t *testing.T) {
	chains := [][]int{nil, {}, {1}, {3}, {1, 10}, {4, 10, 11, 12, 13, 14, 15}, {10}, {1, 2}, {1, 10, 10}, {0}, {5}, {1, 10, 11, 12, 13, 14, 15, 10, 11}}
	scales := []int{math.MinInt, -1, 0, 1, 5, 9, 10, 1 << 32, math.MaxInt}
	dims := []int{math.MinInt, -1, 0, 1, 2, 3, 4, 5, 1 << 32, 1<<32 + 1, math.MaxInt}
	good := 0
	for _, kind := range []int{math.MinInt, -1, 0, 1, 2, 3, 4, 5, 6, 10, 1 << 32, 1<<32 + 2, math.MaxInt} {
		for _, chain := range chains {
			for _, scale := range scales {
				for _, d := range dims {
					f := api.Field{Name: "x", Kind: kind, Chain: chain, Scale: scale, Dims: d, Many: good%2 > 0, Stored: good%3 > 0}
					wantFieldCheck(t, f)
					if schema.Check(of(f)) == api.OK {
						good++
					}
				}
			}
		}
	}
	if want := 4 + 2 + 2 + 2*4 + 2*4; good != want {
		t.Errorf("%d fields may be, want %d", good, want)
	}
}

// wantFieldCheck holds Check of a field alone, among others, and with any Many and Stored, against the model.
func wantFieldCheck(t *testing.T, f api.Field) {
	t.Helper()
	few := five().Fields
	wantCheck(t, of(f))
	wantCheck(t, of(few[0], f, few[3]))
	wantCheck(t, of(append(five().Fields, f)...))
	for i := range 4 {
		f.Many, f.Stored = i&1 > 0, i&2 > 0
		wantCheck(t, of(f))
	}
}

// TestCheckMany: P8.1, of each number of fields, of names that stand twice, and of a wrong name.
func TestCheckMany(t *testing.T) {
	for size := range 40 {
		s := api.Schema{}
		for i := range size {
			s.Fields = append(s.Fields, api.Field{Name: fmt.Sprintf("f%d", i), Kind: api.KNumber})
		}
		wantCheck(t, s)
		if got := schema.Check(s) == api.OK; got != (size >= 1 && size <= 16) {
			t.Errorf("Check of %d fields: %t", size, got)
		}
	}
	for a := range 16 {
		for b := range 16 {
			s := broad()
			s.Fields[a].Name = s.Fields[b].Name
			wantCheck(t, s)
			if got := schema.Check(s) == api.OK; got != (a == b) {
				t.Errorf("Check with the fields %d and %d of one name: %t", a, b, got)
			}
		}
		for _, name := range []string{"", "A", "1", "#", "a b", "é", strings.Repeat("a", 25), "\xff"} {
			s := broad()
			s.Fields[a].Name = name
			wantCheck(t, s)
		}
	}
	if got := schema.Check(of(slices.Repeat(five().Fields, 1<<18)...)); got != api.ErrSchema {
		t.Errorf("Check of many fields: %d", got)
	}
}

func TestFind(t *testing.T) {
	few := five()
	for i, f := range few.Fields {
		if got, ok := schema.Find(few, f.Name); got != i || !ok {
			t.Errorf("Find(%s) = %d, %t", f.Name, got, ok)
		}
	}
	for _, name := range []string{"", "x", "T", "t ", "tt", "t\x00", "\xff"} {
		if got, ok := schema.Find(few, name); got != 0 || ok {
			t.Errorf("Find(%q) = %d, %t", name, got, ok)
		}
		if got, ok := schema.Find(api.Schema{}, name); got != 0 || ok {
			t.Errorf("Find(%q) of no fields = %d, %t", name, got, ok)
		}
	}
	// Schemas that may not be have names too, and the first field of one counts.
	odd := of(api.Field{Name: "A"}, api.Field{Name: "\xff\x00", Kind: 99}, api.Field{}, api.Field{Name: "A", Kind: api.KNumber}, api.Field{Name: ""}, api.Field{Name: strings.Repeat("z", 1<<20)})
	for name, want := range map[string]int{"A": 0, "\xff\x00": 1, "": 2, strings.Repeat("z", 1<<20): 5} {
		if got, ok := schema.Find(odd, name); got != want || !ok {
			t.Errorf("Find(%.40q) = %d, %t, want %d", name, got, ok, want)
		}
	}
	many := of(append(make([]api.Field, 1000), api.Field{Name: "last"}, api.Field{Name: "last"})...)
	if got, ok := schema.Find(many, "last"); got != 1000 || !ok {
		t.Errorf("Find of many fields = %d, %t", got, ok)
	}
}
