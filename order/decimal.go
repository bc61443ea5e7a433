package order

import (
	"strconv"
	"strings"

	"lectern/api"
)

// mostWhole is how many digits the whole part of a decimal has at most.
const mostWhole = 19

// Decimal reads a decimal as a whole number: P7.1.
func Decimal(text string, scale int) (int64, api.Errno) {
	if !isScale(scale) {
		return 0, api.ErrArg
	}
	digits, ok := scaled(text, scale)
	if !ok {
		return 0, api.ErrDecimal
	}
	n, err := strconv.ParseInt(digits, 10, 64)
	if err != nil { // these are digits: so the number is one that an int64 does not hold
		return 0, api.ErrDecimal
	}
	return n, api.OK
}

// scaled tells the digits of a decimal's number, behind a minus if it has one, and whether the text is a decimal.
func scaled(text string, scale int) (string, bool) {
	r := reader{text}
	minus := r.take(1, just('-'))
	whole := r.take(mostWhole, isDigit)
	if whole == "" || len(whole) > 1 && whole[0] == '0' {
		return "", false
	}
	point := r.take(min(scale, 1), just('.'))
	part := r.take(scale*len(point), isDigit)
	if len(part) < len(point) || r.left != "" {
		return "", false
	}
	return minus + whole + part + zeros(scale-len(part)), true
}

// Text tells a number's decimal: P7.2.
func Text(n int64, scale int) (string, api.Errno) {
	if !isScale(scale) {
		return "", api.ErrArg
	}
	digits, below := strings.CutPrefix(strconv.FormatInt(n, 10), "-")
	if least := scale + 1; len(digits) < least { // one digit stands ahead of the point
		digits = zeros(least-len(digits)) + digits
	}
	at := len(digits) - scale
	out := digits[:at]
	if scale > 0 {
		out += "." + digits[at:]
	}
	if below {
		out = "-" + out
	}
	return out, api.OK
}

func isScale(scale int) bool { return scale >= 0 && scale <= api.MaxScale }

func isDigit(c byte) bool { return c >= '0' && c <= '9' }

func zeros(n int) string { return strings.Repeat("0", n) }
