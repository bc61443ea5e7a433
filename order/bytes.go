package order

import (
	"strings"

	"lectern/api"
)

// What stands in the bytes of keys.
const (
	firstMissing = "\x00"
	firstNumber  = "\x01"
	firstText    = "\x02"

	zeroInText = "\x00\xff" // it goes behind the end: a text goes ahead of those that it begins
	endOfText  = "\x00\x01"
	markBytes  = 2 // of either

	numberBytes = 8
	signBit     = 1 << 63
)

// Bytes tells the bytes of a row of keys: P7.4.
func Bytes(l ...api.Key) (string, api.Errno) {
	for _, k := range l {
		if !Right(k) {
			return "", api.ErrArg
		}
	}
	var out strings.Builder
	for _, k := range l {
		putKey(&out, k)
	}
	return out.String(), api.OK
}

func putKey(out *strings.Builder, k api.Key) {
	switch k.Kind {
	case kMissing:
		out.WriteString(firstMissing)
	case kNumber:
		out.WriteString(firstNumber)
		putNumber(out, k.Number)
	case kText:
		out.WriteString(firstText)
		putText(out, k.Text)
	}
}

// putNumber puts a number so that those below 0 go ahead: with its sign bit turned about, which is 2^63 more.
func putNumber(out *strings.Builder, n int64) {
	u := uint64(n) ^ signBit
	for i := range numberBytes {
		out.WriteByte(byte(u >> (8 * (numberBytes - 1 - i))))
	}
}

func putText(out *strings.Builder, s string) {
	for i := range len(s) {
		switch c := s[i]; c {
		case 0:
			out.WriteByte(0)
			c = 0xff
			fallthrough
		default:
			out.WriteByte(c)
		}
	}
	out.WriteString(endOfText)
}

// Keys tells the row of keys whose bytes these are: P7.4.
func Keys(s string) ([]api.Key, api.Errno) {
	var out []api.Key
	for r := (reader{s}); r.left != ""; {
		k, ok := r.key()
		if !ok {
			return nil, api.ErrArg
		}
		out = append(out, k)
	}
	return out, api.OK
}

// key takes the bytes of a key, and tells whether they are those of one.
func (r *reader) key() (api.Key, bool) {
	switch r.take(1, each) {
	case firstMissing:
		return api.Key{}, true
	case firstNumber:
		n, ok := r.number()
		return api.Key{Kind: kNumber, Number: n}, ok
	case firstText:
		s, ok := r.text()
		return api.Key{Kind: kText, Text: s}, ok
	}
	return api.Key{}, false
}

func (r *reader) number() (int64, bool) {
	var u uint64
	l := r.take(numberBytes, each)
	for i := range len(l) {
		u = u<<8 | uint64(l[i])
	}
	return int64(u ^ signBit), len(l) == numberBytes
}

func (r *reader) text() (string, bool) {
	var out strings.Builder
	for {
		out.WriteString(r.take(len(r.left), but(0)))
		switch r.take(markBytes, each) {
		case zeroInText:
			out.WriteByte(0)
		case endOfText:
			return out.String(), true
		default:
			return "", false
		}
	}
}
