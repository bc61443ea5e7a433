package schema_test

import (
	"math"
	"slices"
	"strings"
	"testing"

	"lectern/api"
	"lectern/schema"
)

// wantBack fails unless Back answers that of cells.
func wantBack(t *testing.T, s api.Schema, cells []api.Cell, want []api.Entry, wantE api.Errno) {
	t.Helper()
	if got, e := schema.Back(s, cells); !sameEntries(got.Entries, want) || e != wantE {
		t.Fatalf("Back(%s) = %s, %d, want %s, %d", told(cells), told(got.Entries), e, told(want), wantE)
	}
}

func TestBack(t *testing.T) {
	wantBack(t, five(), list(numC(3, 150)), list(textE("d", "1.50")), api.OK)
	wantBack(t, five(), nil, nil, api.OK)
	wantBack(t, five(), []api.Cell{}, nil, api.OK)
	wantBack(t, five(), list(textC(0, "The fox"), numC(2, 5), numC(3, -7), numC(4, 1, 2), textC(1, "\xff\x00"), textC(0, "")),
		list(textE("t", "The fox"), numE("n", 5), textE("d", "-0.07"), numE("p", 1, 2), textE("k", "\xff\x00"), textE("t", "")), api.OK)
	wantBack(t, five(), list(numC(3, math.MinInt64), numC(2, math.MinInt64)), list(textE("d", "-92233720368547758.08"), numE("n", math.MinInt64)), api.OK)
	wantBack(t, five(), list(api.Cell{Field: 1, Text: "a", Numbers: []int64{}}), list(textE("k", "a")), api.OK)
	wantBack(t, broad(), list(numC(8, 5), numC(9, 5), numC(10, 5), numC(14, 1, 2, 3, 4), textC(15, "")),
		list(textE("d0", "5"), textE("d2", "0.05"), textE("d9", "0.000000005"), numE("p4", 1, 2, 3, 4), textE("abcdefghijklmnopqrstuvw_", "")), api.OK)
	// Nothing but the cells' kinds is asked.
	long := strings.Repeat("x", 5000)
	wantBack(t, five(), list(textC(1, long), textC(1, long), textC(0, long)), list(textE("k", long), textE("k", long), textE("t", long)), api.OK)
	wantBack(t, five(), slices.Repeat(list(numC(2, 5)), 1000), slices.Repeat(list(numE("n", 5)), 1000), api.OK)
}

func TestBackErrors(t *testing.T) {
	odd := list(textC(-1, ""), textC(5, ""), numC(5, 1), textC(math.MinInt, "a"), textC(math.MaxInt, "a"), textC(1<<32, "a"), textC(16, ""))
	bad := list(
		numC(0, 1), api.Cell{Field: 0, Text: "a", Numbers: nums(1)}, numC(1, 1), api.Cell{Field: 1, Text: "a", Numbers: nums(0)},
		numC(2), textC(2, "a"), numC(2, 1, 2), api.Cell{Field: 2, Text: "a", Numbers: nums(1)}, api.Cell{Field: 2, Text: "\x00", Numbers: nums(1)},
		numC(3), textC(3, "1.50"), numC(3, 1, 2), api.Cell{Field: 3, Text: "1.50", Numbers: nums(150)},
		numC(4), numC(4, 1), numC(4, 1, 2, 3), textC(4, "a"), api.Cell{Field: 4, Text: "a", Numbers: nums(1, 2)}, numC(4, make([]int64, 1<<16)...))
	right := list(textC(0, "a"), numC(3, 5))
	for _, x := range odd {
		wantBack(t, five(), list(x), nil, api.ErrField)
		wantBack(t, five(), slices.Concat(right, list(x), right), nil, api.ErrField)
	}
	for _, x := range bad {
		wantBack(t, five(), list(x), nil, api.ErrKind)
		wantBack(t, five(), slices.Concat(right, list(x), right), nil, api.ErrKind)
		for _, y := range odd { // what the promise names first goes first, wherever it stands
			wantBack(t, five(), list(x, y), nil, api.ErrField)
			wantBack(t, five(), list(y, x), nil, api.ErrField)
		}
	}
	for _, s := range wrong() {
		for _, l := range [][]api.Cell{nil, right, odd, bad} {
			wantBack(t, s, l, nil, api.ErrSchema)
		}
	}
}

// TestBackModel: P8.4, of any cells.
func TestBackModel(t *testing.T) {
	bad := map[api.Errno]int{}
	for _, s := range []api.Schema{five(), broad()} {
		for _, l := range someCells(s, 4000, 8) {
			want, e := docOf(s, l)
			wantBack(t, s, l, want.Entries, e)
			bad[e]++
		}
	}
	if min(bad[api.OK], bad[api.ErrField], bad[api.ErrKind]) < 300 {
		t.Errorf("%v", bad)
	}
}
