package order_test

import (
	"fmt"
	"math"
	"math/big"
	"regexp"
	"slices"
	"strings"

	"lectern/api"
)

// The model of this file tells decimals by a regular expression and fractions, and the bytes of keys by another one.

// dice throws numbers by a rule of their own, the same ones each time.
type dice uint64

func (x *dice) below(n int) int {
	*x = *x*6364136223846793005 + 1442695040888963407
	return int(uint64(*x) >> 33 % uint64(n))
}

func pick[T any](x *dice, l []T) T { return l[x.below(len(l))] }

// scales are those that may be, and noScales some that may not.
var (
	scales   = []int{0, 1, 2, 3, 4, 5, 6, 7, 8, 9}
	noScales = []int{math.MinInt, math.MinInt32, -256, -10, -9, -1, 10, 11, 18, 19, 20, 256, 1 << 32, 1<<32 + 2, math.MaxInt - 1, math.MaxInt}
)

// decimals tells, for each scale, the form of its decimals.
var decimals = func() []*regexp.Regexp {
	out := []*regexp.Regexp{regexp.MustCompile(`\A-?(0|[1-9][0-9]{0,18})\z`)}
	for _, s := range scales[1:] {
		out = append(out, regexp.MustCompile(fmt.Sprintf(`\A-?(0|[1-9][0-9]{0,18})(\.[0-9]{1,%d})?\z`, s)))
	}
	return out
}()

// tens tells 10 to the power of a scale.
func tens(scale int) *big.Int {
	return new(big.Int).Exp(big.NewInt(10), big.NewInt(int64(scale)), nil)
}

// said tells what a decimal says.
func said(text string) *big.Rat {
	x, ok := new(big.Rat).SetString(text)
	if !ok {
		panic("no decimal: " + text)
	}
	return x
}

// numberOf, as the chapter tells Decimal.
func numberOf(text string, scale int) (int64, api.Errno) {
	if !slices.Contains(scales, scale) {
		return 0, api.ErrArg
	}
	if !decimals[scale].MatchString(text) {
		return 0, api.ErrDecimal
	}
	x := new(big.Rat).Mul(said(text), new(big.Rat).SetInt(tens(scale)))
	if !x.IsInt() || !x.Num().IsInt64() {
		return 0, api.ErrDecimal
	}
	return x.Num().Int64(), api.OK
}

// decimalOf, as the chapter tells Text.
func decimalOf(n int64, scale int) (string, api.Errno) {
	if !slices.Contains(scales, scale) {
		return "", api.ErrArg
	}
	return new(big.Rat).SetFrac(big.NewInt(n), tens(scale)).FloatString(scale), api.OK
}

// someNumbers tells numbers: small ones, those at powers of ten and of two, those at the edges, and any.
func someNumbers(many int) []int64 {
	out := []int64{math.MinInt64, math.MinInt64 + 1, math.MaxInt64 - 1, math.MaxInt64}
	for n := range int64(130) {
		out = append(out, n, -n)
	}
	for p := int64(1); p <= math.MaxInt64/10; p *= 10 {
		for _, n := range []int64{p * 10, p * 9, p * 5} {
			out = append(out, n-1, n, n+1, 1-n, -n, -1-n)
		}
	}
	for i := range 63 {
		n := int64(1) << i
		out = append(out, n-1, n, n+1, 1-n, -n, -1-n)
	}
	x := dice(7)
	for range many {
		n := int64(x.below(1<<31))<<33 ^ int64(x.below(1<<31))<<11 ^ int64(x.below(1<<31))
		out = append(out, n>>x.below(64))
	}
	return out
}

func missing() api.Key           { return api.Key{} }
func number(n int64) api.Key     { return api.Key{Kind: 1, Number: n} }
func text(s string) api.Key      { return api.Key{Kind: 2, Text: s} }
func row(l ...api.Key) []api.Key { return l }

// told tells a row, as much of it as can be read.
func told(l []api.Key) string {
	out := fmt.Sprintf("%d keys", len(l))
	for _, k := range l[:min(len(l), 12)] {
		out += fmt.Sprintf(", %d %d %.60q", k.Kind, k.Number, k.Text)
	}
	return out
}

// isKey, as the chapter tells it.
func isKey(k api.Key) bool {
	return k == missing() || k == number(k.Number) || k == text(k.Text)
}

// way tells how keys go, as the chapter tells it.
func way(a, b api.Key) int {
	switch {
	case a.Kind < b.Kind, a.Kind == b.Kind && a.Number < b.Number:
		return -1
	case a.Kind > b.Kind, a.Kind == b.Kind && a.Number > b.Number:
		return 1
	case a.Text < b.Text:
		return -1
	case a.Text > b.Text:
		return 1
	}
	return 0
}

// wayOfRows tells how rows go, as the chapter tells it.
func wayOfRows(a, b []api.Key) int {
	switch {
	case len(a) == 0 && len(b) == 0:
		return 0
	case len(a) == 0:
		return -1
	case len(b) == 0:
		return 1
	case a[0] == b[0]:
		return wayOfRows(a[1:], b[1:])
	}
	return way(a[0], b[0])
}

// bytesOf, as the chapter tells the bytes of a row.
func bytesOf(l []api.Key) string {
	var out strings.Builder
	for _, k := range l {
		switch k.Kind {
		case 0:
			out.WriteString("\x00")
		case 1:
			n := new(big.Int).Add(big.NewInt(k.Number), new(big.Int).Lsh(big.NewInt(1), 63))
			out.WriteString("\x01" + string(n.FillBytes(make([]byte, 8))))
		case 2:
			out.WriteString("\x02" + strings.ReplaceAll(k.Text, "\x00", "\x00\xff") + "\x00\x01")
		}
	}
	return out.String()
}

// aKey is the form of a key's bytes, each of which is told as the rune of its number.
var aKey = regexp.MustCompile(`(?s)\A(?:(\x00)|\x01(.{8})|\x02((?:[^\x00]|\x00\xff)*)\x00\x01)`)

// runesOf tells each byte of a text as the rune of its number, and bytesOfRunes turns that back.
func runesOf(s string) string {
	var out strings.Builder
	for i := range len(s) {
		out.WriteRune(rune(s[i]))
	}
	return out.String()
}

func bytesOfRunes(s string) string {
	var out strings.Builder
	for _, r := range s {
		out.WriteByte(byte(r))
	}
	return out.String()
}

// keysOf, as the chapter tells Keys.
func keysOf(s string) ([]api.Key, api.Errno) {
	var out []api.Key
	for left := runesOf(s); left != ""; {
		m := aKey.FindStringSubmatchIndex(left)
		switch {
		case m == nil:
			return nil, api.ErrArg
		case m[2] >= 0:
			out = append(out, missing())
		case m[4] >= 0:
			n := new(big.Int).SetBytes([]byte(bytesOfRunes(left[m[4]:m[5]])))
			out = append(out, number(n.Sub(n, new(big.Int).Lsh(big.NewInt(1), 63)).Int64()))
		default:
			out = append(out, text(strings.ReplaceAll(bytesOfRunes(left[m[6]:m[7]]), "\x00\xff", "\x00")))
		}
		left = left[m[1]:]
	}
	return out, api.OK
}

// someTexts tells texts of all kinds of bytes, with those that the bytes of keys are made of most.
func someTexts(many int) []string {
	out := []string{"", "\x00", "\x00\x00", "\x01", "\x00\x01", "\x00\xff", "\x02", "\xff", "\xff\xff", "\x7f", "\x80", "a", "a\x00", "a\x00\x00", "a\x00\x01", "a\x00\xff", "a\x01", "a\xff", "ab", "b", "é", "東京", "\xe6\x9d", "\U0001f600", " "}
	for c := range 256 {
		out = append(out, string([]byte{byte(c)}), string([]byte{'a', byte(c), 'b'}))
	}
	x := dice(8)
	edges := []byte{0, 1, 2, 'a', 'b', 0x7f, 0x80, 0xfe, 0xff}
	for range many {
		var b []byte
		for range x.below(8) {
			b = append(b, pick(&x, edges))
		}
		out = append(out, string(b))
	}
	return append(out, strings.Repeat("a", 300), strings.Repeat("\x00", 300), strings.Repeat("a\x00\x01", 5000))
}

// fewKeys tells keys at the edges, each once, as they go.
func fewKeys() []api.Key {
	return row(missing(),
		number(math.MinInt64), number(math.MinInt64+1), number(-256), number(-2), number(-1), number(0), number(1), number(255), number(256), number(math.MaxInt64),
		text(""), text("\x00"), text("\x00\x00"), text("\x00\x01"), text("\x00\xff"), text("\x01"), text("\x01\x01"), text("a"), text("a\x00"), text("a\x00b"), text("a\x01"), text("ab"), text("b"), text("\xff"), text("\xff\x00"), text("\xff\xff"))
}

// someKeys tells keys of all kinds.
func someKeys(many int) []api.Key {
	out := fewKeys()
	for _, n := range someNumbers(many) {
		out = append(out, number(n))
	}
	for _, s := range someTexts(many) {
		out = append(out, text(s))
	}
	return out
}

// noKeys tells values that are no keys.
func noKeys() []api.Key {
	return row(
		api.Key{Number: 1}, api.Key{Number: -1}, api.Key{Number: math.MinInt64}, api.Key{Text: "a"}, api.Key{Text: "\x00"}, api.Key{Number: 1, Text: "a"},
		api.Key{Kind: 1, Text: "a"}, api.Key{Kind: 1, Text: "\x00"}, api.Key{Kind: 1, Number: 1, Text: "a"},
		api.Key{Kind: 2, Number: 1}, api.Key{Kind: 2, Number: -1}, api.Key{Kind: 2, Number: 1, Text: "a"}, api.Key{Kind: 2, Number: math.MinInt64, Text: "a"},
		api.Key{Kind: 3}, api.Key{Kind: 3, Number: 1}, api.Key{Kind: 3, Text: "a"}, api.Key{Kind: 4}, api.Key{Kind: -1}, api.Key{Kind: -1, Number: 1}, api.Key{Kind: -2, Text: "a"},
		api.Key{Kind: 256}, api.Key{Kind: 257}, api.Key{Kind: 258}, api.Key{Kind: 1 << 32}, api.Key{Kind: 1<<32 + 1}, api.Key{Kind: 1<<32 + 2},
		api.Key{Kind: math.MinInt}, api.Key{Kind: math.MaxInt}, api.Key{Kind: math.MinInt, Number: 1, Text: "a"})
}

// fewRows tells all rows of up to two of those keys, and some of three.
func fewRows() [][]api.Key {
	out := [][]api.Key{nil}
	for _, a := range fewKeys() {
		out = append(out, row(a))
		for _, b := range fewKeys() {
			out = append(out, row(a, b))
		}
	}
	return append(out, someRows(200, 3)...)
}

// someRows tells rows of any keys, so long at most.
func someRows(many, most int) [][]api.Key {
	x := dice(9)
	both := [][]api.Key{fewKeys(), someKeys(300)}
	var out [][]api.Key
	for range many {
		var l []api.Key
		for range x.below(most + 1) {
			l = append(l, pick(&x, pick(&x, both)))
		}
		out = append(out, l)
	}
	return out
}
