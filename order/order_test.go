package order_test

import (
	"math"
	"strings"
	"testing"

	"lectern/api"
	"lectern/order"
)

func TestRight(t *testing.T) {
	for _, k := range someKeys(300) {
		if !order.Right(k) {
			t.Errorf("Right(%s) = false", told(row(k)))
		}
	}
	for _, k := range noKeys() {
		if order.Right(k) {
			t.Errorf("Right(%s) = true", told(row(k)))
		}
	}
	for _, k := range anyValues() {
		if got, want := order.Right(k), isKey(k); got != want {
			t.Errorf("Right(%s) = %t", told(row(k)), got)
		}
	}
}

// anyValues tells values of all kinds, numbers and texts together, most of which are no keys.
func anyValues() []api.Key {
	var out []api.Key
	for _, kind := range []int{math.MinInt, -1, 0, 1, 2, 3, 256, 1 << 32, math.MaxInt} {
		for _, n := range []int64{math.MinInt64, -1, 0, 1, 1 << 32, math.MaxInt64} {
			for _, s := range []string{"", "\x00", "a", "a\x00", "ab", "\xff"} {
				out = append(out, api.Key{Kind: kind, Number: n, Text: s})
			}
		}
	}
	return out
}

// wantCompare fails unless a goes to b, and b to a, as the model tells it.
func wantCompare(t *testing.T, a, b api.Key) {
	t.Helper()
	want := way(a, b)
	if got, back := order.Compare(a, b), order.Compare(b, a); got != want || back != -want {
		t.Fatalf("Compare(%s) = %d, turned about %d, want %d", told(row(a, b)), got, back, want)
	}
}

func TestCompare(t *testing.T) {
	l := fewKeys() // as they go
	for i, a := range l {
		for j, b := range l {
			want := 0
			if i < j {
				want = -1
			} else if i > j {
				want = 1
			}
			if got := order.Compare(a, b); got != want {
				t.Errorf("Compare(%s) = %d, want %d", told(row(a, b)), got, want)
			}
		}
	}
}

// TestCompareAny: P7.3, of values that are no keys too: all their fields count.
func TestCompareAny(t *testing.T) {
	l := append(anyValues(), append(noKeys(), someKeys(100)...)...)
	for _, a := range l {
		for _, b := range l {
			wantCompare(t, a, b)
		}
	}
	for _, x := range [][2]api.Key{
		{{Kind: -1, Number: 9, Text: "z"}, {}},
		{{Kind: math.MinInt}, {Kind: math.MaxInt}},
		{{Number: -1, Text: "z"}, {}},
		{{Kind: 2, Number: math.MinInt64, Text: "z"}, {Kind: 2, Number: math.MaxInt64}},
		{{Kind: 1, Number: 1, Text: "a"}, {Kind: 1, Number: 1, Text: "b"}},
		{{Text: "a"}, {Text: "ab"}},
		{{Text: strings.Repeat("a", 1000) + "a"}, {Text: strings.Repeat("a", 1000) + "b"}},
	} {
		if got, back := order.Compare(x[0], x[1]), order.Compare(x[1], x[0]); got != -1 || back != 1 {
			t.Errorf("Compare(%s) = %d, turned about %d", told(x[:]), got, back)
		}
	}
}

// wantRows fails unless a goes to b as the model tells it.
func wantRows(t *testing.T, a, b []api.Key) {
	t.Helper()
	if got, want := order.Rows(a, b), wayOfRows(a, b); got != want {
		t.Fatalf("Rows(%s; %s) = %d, want %d", told(a), told(b), got, want)
	}
}

func TestRows(t *testing.T) {
	one, two := number(1), number(2)
	for _, x := range []struct {
		a, b []api.Key
		want int
	}{
		{nil, nil, 0}, {nil, row(), 0}, {row(), nil, 0}, {nil, row(missing()), -1}, {row(missing()), nil, 1},
		{row(one), row(one), 0}, {row(one), row(two), -1}, {row(two), row(one), 1}, {row(one), row(one, missing()), -1}, {row(one, missing()), row(one), 1},
		{row(two), row(one, one), 1}, {row(one, two), row(two), -1}, {row(one, one, one), row(one, two), -1}, {row(one, two), row(one, one, one), 1},
		{row(text("a"), text("b")), row(text("a"), text("b")), 0}, {row(text("a")), row(text("ab")), -1}, {row(text("ab")), row(text("a"), text("b")), 1}, {row(missing(), missing()), row(one), -1},
		{row(api.Key{Kind: 7}), row(api.Key{Kind: 7, Text: "a"}), -1}, {row(api.Key{Kind: -7}), row(missing()), -1}, {row(), row(api.Key{Kind: -7}), -1},
	} {
		if got := order.Rows(x.a, x.b); got != x.want {
			t.Errorf("Rows(%s; %s) = %d, want %d", told(x.a), told(x.b), got, x.want)
		}
	}
}

// TestRowsModel: P7.3, of all short rows of keys, and of rows of any values.
func TestRowsModel(t *testing.T) {
	l := fewRows()
	for _, a := range l {
		for _, b := range l {
			wantRows(t, a, b)
		}
	}
	x := dice(10)
	values := append(anyValues(), fewKeys()...)
	for range 20000 {
		var a, b []api.Key
		for range x.below(4) {
			k := pick(&x, values)
			a, b = append(a, k), append(b, k)
		}
		for range x.below(3) {
			a = append(a, pick(&x, values))
		}
		for range x.below(3) {
			b = append(b, pick(&x, values))
		}
		wantRows(t, a, b)
	}
}
