package codec_test

import (
	"bytes"
	"encoding/binary"
	"math"
	"strconv"
	"strings"
	"testing"

	"lectern/api"
	"lectern/codec"
)

func TestReaderExample(t *testing.T) {
	r := codec.NewReader([]byte{0xac, 2, 1, 2, 'a', 'b', 5})
	wantErr(t, "at the beginning", r, api.OK, 7)
	if n := r.Uint(); n != 300 {
		t.Errorf("Uint: %d", n)
	}
	wantErr(t, "behind Uint", r, api.OK, 5)
	if n := r.Int(); n != -1 {
		t.Errorf("Int: %d", n)
	}
	if s := r.Text(2); s != "ab" {
		t.Errorf("Text: %q", s)
	}
	wantErr(t, "behind Text", r, api.OK, 1)
	if e := r.End(); e != api.ErrCorrupt {
		t.Errorf("End: %d", e)
	}
	wantErr(t, "behind End", r, api.ErrCorrupt, 1)
	if n := r.Uint(); n != 0 { // 5 stands there, but End left an error
		t.Errorf("Uint behind End: %d", n)
	}
}

// TestReaderAll: each call once, to the end.
func TestReaderAll(t *testing.T) {
	r := codec.NewReader([]byte{0x80, 1, 0x7f, 4, 3, 'x', 0, 0xff, 9, 8, 7})
	if n := r.Uint(); n != 128 {
		t.Errorf("Uint: %d", n)
	}
	if n := r.Int(); n != -64 {
		t.Errorf("Int: %d", n)
	}
	if n := r.Size(4); n != 4 {
		t.Errorf("Size: %d", n)
	}
	if s := r.Text(math.MaxInt); s != "x\x00\xff" {
		t.Errorf("Text: %q", s)
	}
	same(t, "Bytes(0)", r.Bytes(0))
	same(t, "Bytes(2)", r.Bytes(2), 9, 8)
	wantErr(t, "ahead of the last byte", r, api.OK, 1)
	same(t, "Bytes(1)", r.Bytes(1), 7)
	wantErr(t, "behind all", r, api.OK, 0)
	same(t, "Bytes(0) at the end", r.Bytes(0))
	if e := r.End(); e != api.OK {
		t.Errorf("End: %d", e)
	}
	wantErr(t, "behind End", r, api.OK, 0)
	if n := r.Uint(); n != 0 || r.End() != api.ErrCorrupt {
		t.Errorf("Uint at the end: %d, End %d", n, r.End())
	}
}

// failing are rows of bytes, and of a call that fails at their beginning.
func failing() map[string]struct {
	b    []byte
	call func(r *codec.Reader) string
} {
	unsigned := func(r *codec.Reader) string { return strconv.FormatUint(r.Uint(), 10) }
	signed := func(r *codec.Reader) string { return strconv.FormatInt(r.Int(), 10) }
	size := func(most int) func(r *codec.Reader) string {
		return func(r *codec.Reader) string { return strconv.Itoa(r.Size(most)) }
	}
	text := func(most int) func(r *codec.Reader) string {
		return func(r *codec.Reader) string { return strconv.Itoa(len(r.Text(most))) }
	}
	take := func(n int) func(r *codec.Reader) string {
		return func(r *codec.Reader) string { return strconv.Itoa(len(r.Bytes(n))) }
	}
	over := append(bytes.Repeat([]byte{0x80}, 10), 1)
	return map[string]struct {
		b    []byte
		call func(r *codec.Reader) string
	}{
		"Uint of nothing":              {nil, unsigned},
		"Uint of 80":                   {[]byte{0x80}, unsigned},
		"Uint of nine ff":              {nines(1)[:9], unsigned},
		"Uint of ten ff":               {nines(0xff), unsigned},
		"Uint that has 11 bytes":       {over, unsigned},
		"Uint of 80 00":                {[]byte{0x80, 0, 1}, unsigned},
		"Uint of ff 80 00":             {[]byte{0xff, 0x80, 0}, unsigned},
		"Uint of nine ff, 00":          {nines(0), unsigned},
		"Uint of 2^64 and more":        {nines(2), unsigned},
		"Uint of nine ff, 03":          {nines(3), unsigned},
		"Uint of nine ff, 7f":          {nines(0x7f), unsigned},
		"Uint of nine ff, 81 00":       {append(nines(0x81), 0), unsigned},
		"Int of nothing":               {nil, signed},
		"Int of ff":                    {[]byte{0xff}, signed},
		"Int of 81 00":                 {[]byte{0x81, 0}, signed},
		"Int of nine ff, 02":           {nines(2), signed},
		"Size(4) of 05":                {[]byte{5}, size(4)},
		"Size(0) of 01":                {[]byte{1}, size(0)},
		"Size(-1) of 00":               {[]byte{0}, size(-1)},
		"Size of the least int of 00":  {[]byte{0}, size(math.MinInt)},
		"Size(-1) of 2^64 - 1":         {nines(1), size(-1)},
		"Size of 2^63":                 {binary.AppendUvarint(nil, 1<<63), size(math.MaxInt)},
		"Size of 2^64 - 1":             {nines(1), size(math.MaxInt)},
		"Size of 85 00":                {[]byte{0x85, 0}, size(9)},
		"Size of nothing":              {nil, size(9)},
		"Text(1) of 02 61 62":          {[]byte{2, 'a', 'b'}, text(1)},
		"Text(0) of 01 61":             {[]byte{1, 'a'}, text(0)},
		"Text(-1) of 00":               {[]byte{0}, text(-1)},
		"Text(-1) of 01 61":            {[]byte{1, 'a'}, text(-1)},
		"Text(9) of 03 61 62":          {[]byte{3, 'a', 'b'}, text(9)},
		"Text of 02":                   {[]byte{2}, text(9)},
		"Text of the greatest length":  {append(binary.AppendUvarint(nil, math.MaxInt64), "abc"...), text(math.MaxInt)},
		"Text of a length beyond int":  {append(nines(1), "abc"...), text(math.MaxInt)},
		"Text of nothing":              {nil, text(9)},
		"Text of 80 00":                {[]byte{0x80, 0}, text(9)},
		"Bytes(3) of 61 62":            {[]byte("ab"), take(3)},
		"Bytes(1) of nothing":          {nil, take(1)},
		"Bytes(-1) of 61":              {[]byte("a"), take(-1)},
		"Bytes of the least int":       {[]byte("a"), take(math.MinInt)},
		"Bytes of the greatest int":    {[]byte("a"), take(math.MaxInt)},
		"Bytes(1) behind what is left": {[]byte{}, take(1)},
	}
}

// stays fails unless a reader keeps its error and its place, and tells nothing more.
func stays(t *testing.T, what string, r *codec.Reader, left int) {
	t.Helper()
	for range 2 {
		if n := r.Uint(); n != 0 {
			t.Errorf("%s: Uint: %d", what, n)
		}
		if n := r.Int(); n != 0 {
			t.Errorf("%s: Int: %d", what, n)
		}
		if n := r.Size(math.MaxInt); n != 0 {
			t.Errorf("%s: Size: %d", what, n)
		}
		if s := r.Text(math.MaxInt); s != "" {
			t.Errorf("%s: Text: %q", what, s)
		}
		for n := range 3 {
			same(t, what+": Bytes", r.Bytes(n))
		}
		wantErr(t, what, r, api.ErrCorrupt, left)
		if e := r.End(); e != api.ErrCorrupt {
			t.Errorf("%s: End: %d", what, e)
		}
	}
}

// TestReaderErrors: a call that fails tells nothing, and leaves the reader where it is with an error that stays.
func TestReaderErrors(t *testing.T) {
	for what, x := range failing() {
		r := codec.NewReader(x.b)
		if got := x.call(r); got != "0" {
			t.Errorf("%s: %s", what, got)
		}
		stays(t, what, r, len(x.b))

		// The same behind what was read well, and ahead of what could be.
		r = codec.NewReader(append([]byte{0xac, 2}, x.b...))
		r.Uint()
		if got := x.call(r); got != "0" {
			t.Errorf("behind a number: %s: %s", what, got)
		}
		stays(t, "behind a number: "+what, r, len(x.b))
	}
}

// TestReaderNil: a nil reader reads nothing; one that NewReader did not make has nothing.
func TestReaderNil(t *testing.T) {
	stays(t, "nil", nil, 0)
	var r codec.Reader
	wantErr(t, "a Reader{}", &r, api.OK, 0)
	if e := r.End(); e != api.OK {
		t.Errorf("End of a Reader{}: %d", e)
	}
	r.Uint()
	stays(t, "a Reader{}", &r, 0)
	for _, b := range [][]byte{nil, {}} {
		if e := codec.NewReader(b).End(); e != api.OK {
			t.Errorf("End of nothing: %d", e)
		}
	}
}

func TestReaderSize(t *testing.T) {
	for _, n := range []int{0, 1, 4, 127, 128, 1 << 24, math.MaxInt - 1, math.MaxInt} {
		b := codec.PutUint(nil, uint64(n))
		for _, most := range []int{n, math.MaxInt, max(n, n+1)} {
			r := codec.NewReader(b)
			if got := r.Size(most); got != n || r.End() != api.OK {
				t.Errorf("Size(%d) of %d: %d, %d", most, n, got, r.End())
			}
		}
		r := codec.NewReader(b)
		if got := r.Size(n - 1); got != 0 || r.End() != api.ErrCorrupt {
			t.Errorf("Size(%d) of %d: %d, %d", n-1, n, got, r.End())
		}
	}
}

// TestReaderText: a text of just as many bytes as are asked, or are there, is read.
func TestReaderText(t *testing.T) {
	for _, n := range []int{0, 1, 127, 128, 5000} {
		s := strings.Repeat("é", n)[:n]
		b := codec.PutText(nil, s)
		for _, most := range []int{n, n + 1, math.MaxInt} {
			r := codec.NewReader(b)
			if got := r.Text(most); got != s || r.End() != api.OK {
				t.Errorf("Text(%d) of %d bytes: %d bytes, %d", most, n, len(got), r.End())
			}
		}
		r := codec.NewReader(b)
		if got := r.Text(n - 1); got != "" || r.Left() != len(b) || r.Err() != api.ErrCorrupt {
			t.Errorf("Text(%d) of %d bytes: %d bytes, %d left, %d", n-1, n, len(got), r.Left(), r.Err())
		}
	}
}

// TestReaderMemory: P2.5, for readers.
func TestReaderMemory(t *testing.T) {
	room := []byte{1, 2, 'a', 'b', 'c', 'd', 0x80}
	b := room[:6]
	r := codec.NewReader(b)
	for i := range room {
		room[i] = 0xff
	}
	wantErr(t, "NewReader", r, api.OK, 6)
	if n := r.Uint(); n != 1 {
		t.Errorf("the reader has no copy: Uint: %d", n)
	}
	if s := r.Text(9); s != "ab" {
		t.Errorf("the reader has no copy: Text: %q", s)
	}
	got := r.Bytes(1)
	_ = append(got, 'x') // what is answered may be appended to
	got[0] = 'y'
	same(t, "behind Bytes", r.Bytes(1), 'd')

	room = []byte{1, 'a', 'b'}
	r = codec.NewReader(room)
	r.Text(9)
	r.Bytes(1)[0] = 9
	same(t, "what a reader was made of", room, 1, 'a', 'b')
}

// TestReaders: two readers of the same bytes have their own places.
func TestReaders(t *testing.T) {
	b := []byte{1, 2, 3}
	p, q := codec.NewReader(b), codec.NewReader(b)
	p.Uint()
	p.Bytes(7)
	wantErr(t, "the one that failed", p, api.ErrCorrupt, 2)
	wantErr(t, "the other one", q, api.OK, 3)
	same(t, "Bytes of the other one", q.Bytes(3), 1, 2, 3)
}

// number tells what the library makes of the form of a number that b begins with, and how many bytes that has; 0, if it is none.
func number(b []byte) (uint64, int) {
	n, size := binary.Uvarint(b)
	if size <= 0 || !bytes.Equal(binary.AppendUvarint(nil, n), b[:size]) {
		return 0, 0
	}
	return n, size
}

// check holds all calls at the beginning of some bytes against the library's numbers.
func check(t *testing.T, b []byte) {
	t.Helper()
	n, size := number(b)
	want := func(what string, r *codec.Reader, ok bool, read int) {
		t.Helper()
		if ok {
			wantErr(t, what, r, api.OK, len(b)-read)
		} else {
			wantErr(t, what, r, api.ErrCorrupt, len(b))
		}
	}

	r := codec.NewReader(b)
	if got := r.Uint(); got != n {
		t.Errorf("Uint of % x: %d, want %d", b, got, n)
	}
	want("Uint", r, size > 0, size)
	r = codec.NewReader(b)
	s, _ := binary.Varint(b[:size])
	if got := r.Int(); got != s {
		t.Errorf("Int of % x: %d, want %d", b, got, s)
	}
	want("Int", r, size > 0, size)
	r = codec.NewReader(b)
	if got, ok := r.Size(100), size > 0 && n <= 100; ok && got != int(n) || !ok && got != 0 {
		t.Errorf("Size of % x: %d, want %d", b, got, n)
	}
	want("Size", r, size > 0 && n <= 100, size)
	r = codec.NewReader(b)
	text, ok := "", size > 0 && n <= uint64(len(b)-size)
	if ok {
		text = string(b[size:][:n])
	}
	if got := r.Text(100); got != text {
		t.Errorf("Text of % x: %q, want %q", b, got, text)
	}
	want("Text", r, ok, size+len(text))
}

// TestReaderForms: P2.3, P2.4: of all rows of one and two bytes, and of those of up to 12 in which not each byte counts, those are read that would be put.
func TestReaderForms(t *testing.T) {
	check(t, nil)
	for a := range 256 {
		check(t, []byte{byte(a)})
		for b := range 256 {
			check(t, []byte{byte(a), byte(b)})
		}
	}
	some := []byte{0, 1, 2, 3, 0x7f, 0x80, 0x81, 0xfe, 0xff}
	for n := range 12 {
		for _, most := range []byte{0x80, 0xff} {
			ahead := bytes.Repeat([]byte{most}, n)
			for _, a := range some {
				for _, b := range some {
					check(t, append(ahead[:n:n], a, b))
				}
			}
		}
	}
	for _, n := range edges() {
		check(t, binary.AppendUvarint(nil, n))
		check(t, binary.AppendVarint(nil, int64(n)))
	}
}

// dice are numbers that look like any, the same ones each time.
type dice uint64

func (d *dice) next(n int) int {
	*d = *d*6364136223846793005 + 1442695040888963407
	return int(uint64(*d) >> 33 % uint64(n))
}

// thing is something to put and to read: kind tells which.
type thing struct {
	kind int
	u    uint64
	s    string
}

func (x thing) put(b []byte) []byte {
	switch x.kind {
	case 0, 1:
		return codec.PutUint(b, x.u)
	case 2:
		return codec.PutInt(b, int64(x.u))
	}
	return codec.PutText(b, x.s)
}

// take reads a thing of the same kind.
func (x thing) take(r *codec.Reader) thing {
	switch x.kind {
	case 0:
		return thing{kind: 0, u: r.Uint()}
	case 1:
		return thing{kind: 1, u: uint64(r.Size(math.MaxInt))}
	case 2:
		return thing{kind: 2, u: uint64(r.Int())}
	}
	return thing{kind: 3, s: r.Text(len(x.s))}
}

func things(d *dice, n int) []thing {
	all := edges()
	out := make([]thing, n)
	for i := range out {
		out[i] = thing{kind: d.next(4)}
		switch out[i].kind {
		case 1:
			out[i].u = all[d.next(len(all))] % (1 << 63)
		case 3:
			out[i].s = strings.Repeat(string([]byte{byte(d.next(256))}), d.next(5)*d.next(60))
		default:
			out[i].u = all[d.next(len(all))] + uint64(d.next(3))
		}
	}
	return out
}

// TestRoundTrip: P2.3, P2.4: what was put is read again in its order; cut anywhere, all up to there is read, and no more.
func TestRoundTrip(t *testing.T) {
	d := dice(1)
	for range 300 {
		row := things(&d, d.next(12))
		var b []byte
		ends := []int{0}
		for _, x := range row {
			b = x.put(b)
			ends = append(ends, len(b))
		}
		cut := d.next(len(b) + 1)
		for _, size := range []int{len(b), cut} {
			r := codec.NewReader(b[:size])
			for i, x := range row {
				got, whole := x.take(r), ends[i+1] <= size
				if whole && (got != x || r.Err() != api.OK || r.Left() != size-ends[i+1]) {
					t.Fatalf("%v: got %v, error %d, %d left", x, got, r.Err(), r.Left())
				}
				if !whole && (got != thing{kind: x.kind} || r.Err() != api.ErrCorrupt) {
					t.Fatalf("%v, cut: got %v, error %d", x, got, r.Err())
				}
			}
			if e := r.End(); (e == api.OK) != (size == len(b)) {
				t.Fatalf("End at %d of %d: %d", size, len(b), e)
			}
		}
	}
}

// TestCut: P2.4: no form is read without its last bytes.
func TestCut(t *testing.T) {
	for _, x := range []thing{{kind: 0, u: math.MaxUint64}, {kind: 1, u: 1 << 40}, {kind: 2, u: 1 << 63}, {kind: 3, s: strings.Repeat("a", 200)}, {kind: 3}} {
		b := x.put(nil)
		for n := range b {
			r := codec.NewReader(b[:n])
			if got := x.take(r); got != (thing{kind: x.kind}) {
				t.Errorf("kind %d cut at %d: %v", x.kind, n, got)
			}
			wantErr(t, "kind "+strconv.Itoa(x.kind)+" cut at "+strconv.Itoa(n), r, api.ErrCorrupt, n)
		}
	}
}

// TestAnyBytes: P1, P2.4: whatever the bytes and the calls, none panics, and a reader never goes back or beyond the end.
func TestAnyBytes(t *testing.T) {
	d := dice(2)
	for range 3000 {
		b := make([]byte, d.next(30))
		for i := range b {
			b[i] = []byte{0, 1, 2, 5, 0x7f, 0x80, 0xff, byte(d.next(256))}[d.next(8)]
		}
		r := codec.NewReader(b)
		for range 10 {
			left, failed := r.Left(), r.Err() != api.OK
			most := []int{math.MinInt, -1, 0, 1, 3, 300, math.MaxInt}[d.next(7)]
			switch d.next(6) {
			case 0:
				r.Uint()
			case 1:
				r.Int()
			case 2:
				r.Size(most)
			case 3:
				if s := r.Text(most); !bytes.HasSuffix(b[:len(b)-r.Left()], []byte(s)) {
					t.Fatalf("Text(%d) of % x: %q", most, b, s)
				}
			case 4:
				if got := r.Bytes(most); !bytes.HasSuffix(b[:len(b)-r.Left()], got) || len(got) > 0 && len(got) != most {
					t.Fatalf("Bytes(%d) of % x: % x", most, b, got)
				}
			case 5:
				r.Err()
			}
			if r.Left() > left || (failed || r.Err() != api.OK) && r.Left() != left || failed && r.Err() != api.ErrCorrupt {
				t.Fatalf("% x: %d left, then %d, error %d", b, left, r.Left(), r.Err())
			}
		}
	}
}
