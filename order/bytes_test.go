package order_test

import (
	"math"
	"slices"
	"strings"
	"testing"

	"lectern/api"
	"lectern/order"
)

// wantBytes fails unless Bytes answers that of a row.
func wantBytes(t *testing.T, l []api.Key, want string, wantE api.Errno) {
	t.Helper()
	if got, e := order.Bytes(l...); got != want || e != wantE {
		t.Fatalf("Bytes(%s) = %.80x, %d, want %.80x, %d", told(l), got, e, want, wantE)
	}
}

// wantKeys fails unless Keys answers that of bytes.
func wantKeys(t *testing.T, s string, want []api.Key, wantE api.Errno) {
	t.Helper()
	if got, e := order.Keys(s); !slices.Equal(got, want) || e != wantE {
		t.Fatalf("Keys(%.80x) = %s, %d, want %s, %d", s, told(got), e, told(want), wantE)
	}
}

// TestBytes: rows, their bytes, and back.
func TestBytes(t *testing.T) {
	for _, x := range []struct {
		l    []api.Key
		want string
	}{
		{nil, ""},
		{row(missing()), "\x00"},
		{row(missing(), missing()), "\x00\x00"},
		{row(number(1)), "\x01\x80\x00\x00\x00\x00\x00\x00\x01"},
		{row(number(-1)), "\x01\x7f\xff\xff\xff\xff\xff\xff\xff"},
		{row(number(0)), "\x01\x80\x00\x00\x00\x00\x00\x00\x00"},
		{row(number(math.MinInt64)), "\x01\x00\x00\x00\x00\x00\x00\x00\x00"},
		{row(number(math.MaxInt64)), "\x01\xff\xff\xff\xff\xff\xff\xff\xff"},
		{row(number(0x0102030405060708)), "\x01\x81\x02\x03\x04\x05\x06\x07\x08"},
		{row(text("")), "\x02\x00\x01"},
		{row(text("a\x00")), "\x02a\x00\xff\x00\x01"},
		{row(text("\x00\x01")), "\x02\x00\xff\x01\x00\x01"},
		{row(text("\x00\xff\xff")), "\x02\x00\xff\xff\xff\x00\x01"},
		{row(text("\x00\x00")), "\x02\x00\xff\x00\xff\x00\x01"},
		{row(text("é")), "\x02\xc3\xa9\x00\x01"},
		{row(missing(), number(-2), text("b"), missing(), text("")), "\x00\x01\x7f\xff\xff\xff\xff\xff\xff\xfe\x02b\x00\x01\x00\x02\x00\x01"},
	} {
		wantBytes(t, x.l, x.want, api.OK)
		wantKeys(t, x.want, x.l, api.OK)
	}
}

// TestBytesModel: P7.4, of all short rows and of longer ones.
func TestBytesModel(t *testing.T) {
	for _, l := range append(fewRows(), someRows(3000, 12)...) {
		want := bytesOf(l)
		wantBytes(t, l, want, api.OK)
		wantKeys(t, want, l, api.OK)
	}
	for _, k := range someKeys(1000) {
		wantBytes(t, row(k), bytesOf(row(k)), api.OK)
		wantKeys(t, bytesOf(row(k)), row(k), api.OK)
	}
}

// TestBytesOfNone: P7.4: a value that is no key, at whatever place, is told.
func TestBytesOfNone(t *testing.T) {
	for _, k := range append(noKeys(), anyValues()...) {
		if isKey(k) {
			continue
		}
		for _, l := range someRows(20, 4) {
			for at := range len(l) + 1 {
				wantBytes(t, slices.Insert(slices.Clone(l), at, k), "", api.ErrArg)
			}
		}
		wantBytes(t, row(k, k), "", api.ErrArg)
	}
}

func TestNoBytes(t *testing.T) {
	for _, s := range []string{
		"\x02a", "\x03", "\x01\x80",
		"\x01", "\x02", "\x04", "\xff", "a", "\x01\x80\x00\x00\x00\x00\x00\x00", "\x02\x00", "\x02a\x00", "\x02\x00\xff", "\x02a\x00\xff\x00", "\x02\x00\xff\x01",
		"\x02\x00\x00\x01", "\x02a\x00\x02\x00\x01", "\x02a\x00b\x00\x01", "\x02a\x00\xfe\x00\x01", "\x02\x00\x80",
		"\x00\x03", "\x03\x00", "\x00\x02", "\x01\x80\x00\x00\x00\x00\x00\x00\x01\x01", "\x02\x00\x01\x01", "\x02\x00\x01\xff", "\x02a\x00\x01a", "\x02a\x00\x01\x02a", "\x01\x80\x00\x00\x00\x00\x00\x00\x01\x80",
	} {
		wantKeys(t, s, nil, api.ErrArg)
	}
}

// wantKeysModel fails unless Keys answers of bytes what the model does; of a row's bytes Bytes tells them again.
func wantKeysModel(t *testing.T, s string) {
	t.Helper()
	want, e := keysOf(s)
	wantKeys(t, s, want, e)
	if e == api.OK {
		wantBytes(t, want, s, api.OK)
	}
}

// TestShortBytes: P7.4, of all rows of up to two bytes, and of longer ones of the bytes at the edges.
func TestShortBytes(t *testing.T) {
	for a := range 256 {
		wantKeysModel(t, string([]byte{byte(a)}))
		for b := range 256 {
			wantKeysModel(t, string([]byte{byte(a), byte(b)}))
			wantKeysModel(t, string([]byte{2, byte(a), byte(b), 0, 1}))
			wantKeysModel(t, string([]byte{2, 0, byte(a), 0, byte(b)}))
			wantKeysModel(t, string([]byte{1, byte(b), 3, 0, 1, 2, 0xff, 0xfe, byte(a)}))
		}
	}
	rowsOf("\x00\x01\x02\xff", 7, func(s string) { wantKeysModel(t, s) })
	rowsOf("\x00\x01\x02\xffa", 5, func(s string) {
		wantKeysModel(t, "\x02"+s)
		wantKeysModel(t, "\x01"+s+"\x02\x00\x01\x00")
	})
}

// TestOtherBytes: P7.4, of bytes of rows that were cut, or in which one is another one, or one more stands.
func TestOtherBytes(t *testing.T) {
	x := dice(11)
	for _, l := range append(someRows(300, 4), row(number(5), text("a\x00b"), missing(), number(-5))) {
		s := bytesOf(l)
		if len(s) > 100 {
			continue
		}
		for at := range len(s) {
			wantKeysModel(t, s[:at])
			wantKeysModel(t, s[at:])
			wantKeysModel(t, s[:at]+s[at+1:])
			for _, c := range []byte{0, 1, 2, 3, 0xfe, 0xff, byte(x.below(256))} {
				wantKeysModel(t, s[:at]+string([]byte{c})+s[at+1:])
				wantKeysModel(t, s[:at]+string([]byte{c})+s[at:])
			}
		}
	}
}

// TestManyKeys: rows and texts of great length.
func TestManyKeys(t *testing.T) {
	const many = 1 << 18
	wantKeys(t, strings.Repeat("\x00", many), make([]api.Key, many), api.OK)
	wantKeys(t, strings.Repeat("\x00", many)+"\x03", nil, api.ErrArg)
	wantBytes(t, make([]api.Key, many), strings.Repeat("\x00", many), api.OK)
	wantBytes(t, append(make([]api.Key, many), api.Key{Kind: 3}), "", api.ErrArg)
	for _, s := range []string{"a", "\x00", "\xff", "\x01", "a\x00"} {
		long := row(text(strings.Repeat(s, many)), number(7))
		wantBytes(t, long, bytesOf(long), api.OK)
		wantKeys(t, bytesOf(long), long, api.OK)
		wantKeys(t, "\x02"+strings.Repeat(strings.ReplaceAll(s, "\x00", "\x00\xff"), many), nil, api.ErrArg)
	}
}
