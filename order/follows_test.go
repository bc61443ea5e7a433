package order_test

import (
	"math/big"
	"slices"
	"strings"
	"testing"
	"unsafe"

	"lectern/api"
	"lectern/order"
)

// mustText tells a number's decimal, of a scale that may be.
func mustText(n int64, scale int) string {
	s, e := order.Text(n, scale)
	if e != api.OK {
		panic(e)
	}
	return s
}

// mustBytes tells the bytes of keys.
func mustBytes(l ...api.Key) string {
	s, e := order.Bytes(l...)
	if e != api.OK {
		panic(e)
	}
	return s
}

// TestDecimalOfText: P7.5: a number's decimal is read as the number.
func TestDecimalOfText(t *testing.T) {
	for _, n := range someNumbers(2000) {
		for _, scale := range scales {
			wantDecimal(t, mustText(n, scale), scale, n, api.OK)
		}
	}
}

// TestDecimalsGo: P7.5: what decimals say goes as their numbers do; so do the decimals as texts, if as many digits stand ahead of the point (turned about below 0).
func TestDecimalsGo(t *testing.T) {
	numbers := someNumbers(300)
	x := dice(12)
	for _, scale := range scales {
		for i := range 20000 {
			a, b := pick(&x, numbers), pick(&x, numbers)
			if i%4 == 0 {
				b = a ^ int64(x.below(64))
			}
			s, u := mustText(a, scale), mustText(b, scale)
			want := order.Compare(number(a), number(b))
			if got := said(s).Cmp(said(u)); got != want {
				t.Fatalf("%s goes to %s by %d, their numbers by %d", s, u, got, want)
			}
			if len(s) != len(u) || (a < 0) != (b < 0) {
				continue
			}
			if a < 0 {
				want = -want
			}
			if got := strings.Compare(s, u); got != want {
				t.Fatalf("%q goes to %q by %d, want %d", s, u, got, want)
			}
		}
	}
}

// TestReadDecimalsGo: P7.5, of decimals that were not written by Text.
func TestReadDecimalsGo(t *testing.T) {
	l := []string{"-9223372036", "-12.5", "-12.05", "-1", "-0.10", "-0.1", "-0.000", "-0", "0", "0.0", "0.001", "0.01", "0.1", "0.2", "0.10", "1", "1.0", "1.5", "9.99", "10", "100", "9223372036.7"}
	for _, a := range l {
		for _, b := range l {
			n, e := order.Decimal(a, 9)
			m, e2 := order.Decimal(b, 9)
			if e != api.OK || e2 != api.OK || big.NewInt(n).Cmp(big.NewInt(m)) != said(a).Cmp(said(b)) {
				t.Errorf("%s, %s: %d %d, %d %d", a, b, n, e, m, e2)
			}
		}
	}
}

// TestBytesGo: P7.6: bytes go as rows do, and of rows of as many keys none's begin another one's.
func TestBytesGo(t *testing.T) {
	l := append(fewRows(), nil)
	all := make([]string, len(l))
	for i := range l {
		all[i] = mustBytes(l[i]...)
	}
	for i, a := range l {
		for j, b := range l {
			got, want := strings.Compare(all[i], all[j]), order.Rows(a, b)
			if got != want {
				t.Fatalf("the bytes of %s; %s go by %d, the rows by %d", told(a), told(b), got, want)
			}
			if len(a) == len(b) && want != 0 && strings.HasPrefix(all[j], all[i]) {
				t.Fatalf("the bytes of %s begin those of %s", told(a), told(b))
			}
		}
	}
}

// TestBytesGoAny: P7.6, of rows of any keys that begin alike.
func TestBytesGoAny(t *testing.T) {
	x := dice(13)
	keys := someKeys(400)
	for range 40000 {
		var a, b []api.Key
		for range x.below(3) {
			k := pick(&x, keys)
			a, b = append(a, k), append(b, k)
		}
		for range 1 + x.below(2) {
			a, b = append(a, pick(&x, keys)), append(b, pick(&x, keys))
		}
		s, u := mustBytes(a...), mustBytes(b...)
		want := order.Rows(a, b)
		if got := strings.Compare(s, u); got != want || want != 0 && (strings.HasPrefix(s, u) || strings.HasPrefix(u, s)) {
			t.Fatalf("the bytes of %s; %s go by %d, the rows by %d", told(a), told(b), got, want)
		}
	}
}

// TestKeysOfBytes: P7.6: Keys of Bytes is the row; the bytes of rows one behind the other are those of all their keys.
func TestKeysOfBytes(t *testing.T) {
	rows := someRows(2000, 6)
	for i, a := range rows {
		b := rows[len(rows)-1-i]
		wantKeys(t, mustBytes(a...), a, api.OK)
		wantKeys(t, mustBytes(a...)+mustBytes(b...), append(slices.Clone(a), b...), api.OK)
	}
}

// TestOrder: P7.7: of two keys one goes ahead, just if they are not the same; and what goes ahead of a key goes ahead of what goes behind it.
func TestOrder(t *testing.T) {
	x := dice(14)
	keys := someKeys(300)
	for i := range 60000 {
		a, b, c := pick(&x, keys), pick(&x, keys), pick(&x, keys)
		if i%3 == 0 {
			b = a
		}
		ab, bc := order.Compare(a, b), order.Compare(b, c)
		if ab != -order.Compare(b, a) || (ab == 0) != (a == b) || ab < -1 || ab > 1 {
			t.Fatalf("Compare(%s) = %d, turned about %d", told(row(a, b)), ab, order.Compare(b, a))
		}
		if ab <= 0 && bc <= 0 && order.Compare(a, c) != min(ab, bc) {
			t.Fatalf("Compare(%s) = %d, between them by %d, %d", told(row(a, c)), order.Compare(a, c), ab, bc)
		}
	}
}

// TestSorted: P7.7: keys that are sorted are the same row, however they stood.
func TestSorted(t *testing.T) {
	x := dice(15)
	want := fewKeys()
	for range 300 {
		l := fewKeys()
		for i := range l {
			j := i + x.below(len(l)-i)
			l[i], l[j] = l[j], l[i]
		}
		slices.SortFunc(l, order.Compare)
		if !slices.Equal(l, want) {
			t.Fatalf("sorted: %s", told(l))
		}
	}
}

// memory tells a text that has the memory of these bytes.
func memory(b []byte) string { return unsafe.String(unsafe.SliceData(b), len(b)) }

// deep tells a copy of keys that shares no memory with them.
func deep(l []api.Key) []api.Key {
	out := slices.Clone(l)
	for i := range out {
		out[i].Text = strings.Clone(out[i].Text)
	}
	return out
}

func overwrite(b []byte) {
	for i := range b {
		b[i] = '!'
	}
}

// TestBytesMemory: P7.8: what was answered stays as it is when the memory of what was handed in is used again.
func TestBytesMemory(t *testing.T) {
	for _, s := range []string{"a", "abc", "a\x00b", "\x00", strings.Repeat("long", 100), "é"} {
		b := []byte(s)
		in := make([]api.Key, 3, 8)
		in[0], in[1], in[2] = text(memory(b)), number(5), text(memory(b))
		was := deep(in)
		got := mustBytes(in...)
		if string(b) != s || !slices.Equal(in, was) || in[:8][3] != missing() {
			t.Fatalf("Bytes(%s) changed them to %s", told(was), told(in[:8]))
		}
		overwrite(b)
		clear(in)
		if want := bytesOf(was); got != want {
			t.Errorf("the bytes of %s became %x", told(was), got)
		}
	}
}

// TestKeysMemory: P7.8, of Keys.
func TestKeysMemory(t *testing.T) {
	for _, l := range append(fewRows()[:40], someRows(300, 5)...) {
		s := bytesOf(l)
		b := []byte(s)
		got, _ := order.Keys(memory(b))
		if string(b) != s {
			t.Fatalf("Keys(%x) changed it to %x", s, b)
		}
		overwrite(b)
		if !slices.Equal(got, l) {
			t.Fatalf("Keys(%x) became %s", s, told(got))
		}
		clear(got)
		_ = append(got, number(9))
		wantKeys(t, s, l, api.OK)
	}
}

// TestDecimalMemory: P7.8, of Decimal and Text.
func TestDecimalMemory(t *testing.T) {
	for _, s := range []string{"12.5", "-0.07", "7", "9223372036854775808", "x"} {
		b := []byte(s)
		want, wantE := numberOf(s, 2)
		got, e := order.Decimal(memory(b), 2)
		if got != want || e != wantE || string(b) != s {
			t.Errorf("Decimal(%q, 2) = %d, %d, and it became %q", s, got, e, b)
		}
	}
}

// TestCompareMemory: P7.8, of Right, Compare and Rows.
func TestCompareMemory(t *testing.T) {
	for _, s := range []string{"", "a", "b", "a\x00"} {
		b := []byte(s)
		l, m := row(text(memory(b)), number(2)), row(text("a"), number(1))
		was, other := deep(l), deep(m)
		order.Right(l[0])
		order.Compare(l[0], m[0])
		order.Rows(l, m)
		if string(b) != s || !slices.Equal(l, was) || !slices.Equal(m, other) {
			t.Errorf("Rows(%s; %s) changed them to %s; %s", told(was), told(other), told(l), told(m))
		}
	}
}

// TestTogether: calls at one time don't touch each other.
func TestTogether(t *testing.T) {
	l := row(missing(), number(-7), text("a\x00b"), text(""))
	want := bytesOf(l)
	done := make(chan bool)
	for i := range 8 {
		go func() {
			good := true
			for range 500 {
				s, e := order.Bytes(l...)
				back, e2 := order.Keys(s)
				n, e3 := order.Decimal(mustText(int64(i), 3), 3)
				good = good && s == want && slices.Equal(back, l) && n == int64(i) && e == api.OK && e2 == api.OK && e3 == api.OK
			}
			done <- good
		}()
	}
	for range 8 {
		if !<-done {
			t.Error("a call, beside others, answered something else")
		}
	}
}
