package order_test

import (
	"math"
	"math/big"
	"strings"
	"testing"

	"lectern/api"
	"lectern/order"
)

// wantDecimal fails unless Decimal answers that of a text.
func wantDecimal(t *testing.T, text string, scale int, want int64, wantE api.Errno) {
	t.Helper()
	if got, e := order.Decimal(text, scale); got != want || e != wantE {
		t.Fatalf("Decimal(%.80q, %d) = %d, %d, want %d, %d", text, scale, got, e, want, wantE)
	}
}

// wantModel fails unless Decimal answers of a text what the model does.
func wantModel(t *testing.T, text string, scale int) {
	t.Helper()
	want, e := numberOf(text, scale)
	wantDecimal(t, text, scale, want, e)
}

func TestDecimal(t *testing.T) {
	for _, x := range []struct {
		text  string
		scale int
		want  int64
	}{
		{"12.5", 2, 1250}, {"-0.07", 2, -7}, {"7", 0, 7}, {"-0", 3, 0}, {"9223372036854775807", 0, math.MaxInt64},
		{"0", 0, 0}, {"0", 9, 0}, {"-0", 0, 0}, {"-0.0", 1, 0}, {"-0.000000000", 9, 0}, {"0.000000001", 9, 1}, {"-0.000000001", 9, -1},
		{"1", 9, 1e9}, {"-1", 9, -1e9}, {"1.0", 1, 10}, {"1.0", 2, 100}, {"1.00", 2, 100}, {"0.5", 1, 5}, {"10", 1, 100}, {"100.001", 3, 100001},
		{"-9223372036854775808", 0, math.MinInt64}, {"-9223372036854775807", 0, math.MinInt64 + 1},
		{"92233720368547758.07", 2, math.MaxInt64}, {"-92233720368547758.08", 2, math.MinInt64}, {"92233720368547758", 2, math.MaxInt64 - 7},
		{"9223372036.854775807", 9, math.MaxInt64}, {"-9223372036.854775808", 9, math.MinInt64}, {"922337203685477580.7", 1, math.MaxInt64},
		{"1000000000000000000", 0, 1e18},
	} {
		wantDecimal(t, x.text, x.scale, x.want, api.OK)
	}
}

func TestNoDecimal(t *testing.T) {
	for _, x := range []struct {
		text  string
		scale int
	}{
		{"1.234", 2}, {"01", 2}, {".5", 2}, {"5.", 2}, {"7.0", 0}, {"", 0}, {"9223372036854775808", 0}, {"92233720368547758.08", 2},
		{"", 9}, {"-", 0}, {"-", 2}, {".", 2}, {"-.", 2}, {"-.5", 2}, {"--1", 0}, {"1-", 0}, {"-1-", 0}, {"1-1", 0}, {"+1", 0}, {"+1", 2}, {"-+1", 2}, {"1.+5", 2}, {"1.-5", 2},
		{"00", 0}, {"-00", 0}, {"-01", 0}, {"00.5", 2}, {"01.5", 2}, {"0000000000000000001", 0}, {"1.", 0}, {"1..5", 2}, {"1.5.", 2}, {"1.5.5", 3}, {"7.", 0}, {"7.5", 0}, {"-0.", 1},
		{"1.00", 1}, {"0.0000000000", 9}, {"1.0000000000", 9}, {" 1", 0}, {"1 ", 0}, {"1\n", 0}, {"\n1", 0}, {"1\x00", 0}, {"\x001", 0}, {"1,5", 2}, {"1_0", 0}, {"1e3", 3}, {"1E3", 3}, {"0x1", 3}, {"0b1", 3}, {"1/2", 1},
		{"٣", 0}, {"1.٣", 1}, {"３", 0}, {"−1", 0}, {"1\xff", 0}, {"a", 0}, {"Inf", 0}, {"NaN", 0}, {"nil", 0},
		{"-9223372036854775809", 0}, {"-92233720368547758.09", 2}, {"9223372036.854775808", 9}, {"-9223372036.854775809", 9}, {"922337203685477580.8", 1}, {"-922337203685477580.9", 1},
		{"9223372036855", 7}, {"9999999999999999999", 0}, {"-9999999999999999999", 0}, {"9999999999999999999.999999999", 9}, {"10000000000000000000", 0}, {"18446744073709551616", 0}, {"18446744073709551617", 0}, {"18446744073709551.617", 3},
		{"1000000000000000000", 1}, {"1000000000000000000", 9}, {"184467440737.09551617", 8}, {"1844674407370955162", 1},
	} {
		wantDecimal(t, x.text, x.scale, 0, api.ErrDecimal)
	}
}

// TestScale: a scale that is none is told ahead of a text that is no decimal.
func TestScale(t *testing.T) {
	for _, scale := range noScales {
		for _, s := range []string{"0", "1", "-1", "12.5", "", "x", "01", "9223372036854775808", strings.Repeat("1", 100)} {
			wantDecimal(t, s, scale, 0, api.ErrArg)
		}
		for _, n := range []int64{0, 1, -1, 12345, math.MinInt64, math.MaxInt64} {
			if got, e := order.Text(n, scale); got != "" || e != api.ErrArg {
				t.Errorf("Text(%d, %d) = %q, %d", n, scale, got, e)
			}
		}
	}
}

// rowsOf goes through all rows of up to so many of these bytes.
func rowsOf(bytes string, most int, look func(s string)) {
	var next func(ahead string)
	next = func(ahead string) {
		look(ahead)
		if len(ahead) < most {
			for i := range len(bytes) {
				next(ahead + bytes[i:i+1])
			}
		}
	}
	next("")
}

// TestShortDecimals: P7.1, of all short texts of the bytes that decimals are made of.
func TestShortDecimals(t *testing.T) {
	rowsOf("-.019+", 6, func(s string) {
		for scale := range 4 {
			wantModel(t, s, scale)
		}
	})
}

// TestDecimalBytes: P7.1, of decimals with any byte in place of one, or between two.
func TestDecimalBytes(t *testing.T) {
	for _, s := range []string{"7", "-7", "12.5", "-0.07", "0.123456789", "100"} {
		for _, scale := range scales {
			wantModel(t, s, scale)
			for c := range 256 {
				for at := range len(s) + 1 {
					wantModel(t, s[:at]+string([]byte{byte(c)})+s[at:], scale)
					if at < len(s) {
						wantModel(t, s[:at]+string([]byte{byte(c)})+s[at+1:], scale)
					}
				}
			}
		}
	}
}

// TestDigits: P7.1, of each number of digits ahead of the point and behind it.
func TestDigits(t *testing.T) {
	for _, first := range []string{"0", "1", "9"} {
		for _, more := range []string{"0", "9"} {
			for whole := range 24 {
				for part := -1; part < 12; part++ {
					s := first + strings.Repeat(more, whole)
					if part >= 0 {
						s += "." + strings.Repeat(more, part)
					}
					for _, scale := range scales {
						wantModel(t, s, scale)
						wantModel(t, "-"+s, scale)
					}
				}
			}
		}
	}
}

// TestDecimalEdges: P7.1, on both sides of the least and the greatest numbers, and where sums would go round.
func TestDecimalEdges(t *testing.T) {
	round := new(big.Int).Lsh(big.NewInt(1), 64)
	for _, scale := range scales {
		for _, edge := range []int64{math.MinInt64, math.MaxInt64, math.MinInt64 / 10, math.MaxInt64 / 10, math.MaxInt32, 0} {
			for d := int64(-12); d <= 12; d++ {
				for _, n := range []*big.Int{big.NewInt(edge), new(big.Int).Add(round, big.NewInt(edge)), new(big.Int).Sub(big.NewInt(edge), round)} {
					n = new(big.Int).Add(n, big.NewInt(d))
					s := new(big.Rat).SetFrac(n, tens(scale)).FloatString(scale)
					wantModel(t, s, scale)
					if scale > 0 {
						wantModel(t, s[:len(s)-1], scale)
						wantModel(t, s+"0", scale)
						wantModel(t, s, scale-1)
					}
					for _, other := range scales {
						wantModel(t, n.String(), other)
					}
				}
			}
		}
	}
}

func TestLongTexts(t *testing.T) {
	const many = 1 << 22
	for _, s := range []string{"0", "1", "9", "-", ".", "0.", "\x00", "\xff"} {
		long := strings.Repeat(s, many)
		for _, scale := range []int{0, 1, 9} {
			wantDecimal(t, long, scale, 0, api.ErrDecimal)
			wantDecimal(t, "-"+long, scale, 0, api.ErrDecimal)
			wantDecimal(t, "1."+long, scale, 0, api.ErrDecimal)
		}
		wantDecimal(t, long, 10, 0, api.ErrArg)
	}
}

// wantText fails unless Text answers that of a number.
func wantText(t *testing.T, n int64, scale int, want string) {
	t.Helper()
	if got, e := order.Text(n, scale); got != want || e != api.OK {
		t.Errorf("Text(%d, %d) = %q, %d, want %q", n, scale, got, e, want)
	}
}

func TestText(t *testing.T) {
	for _, x := range []struct {
		n     int64
		scale int
		want  string
	}{
		{1250, 2, "12.50"}, {-7, 2, "-0.07"}, {7, 0, "7"}, {math.MinInt64, 9, "-9223372036.854775808"},
		{0, 0, "0"}, {0, 1, "0.0"}, {0, 9, "0.000000000"}, {-7, 0, "-7"}, {7, 1, "0.7"}, {-7, 1, "-0.7"}, {10, 1, "1.0"}, {-10, 1, "-1.0"}, {99, 2, "0.99"}, {100, 2, "1.00"}, {-100, 2, "-1.00"},
		{1, 9, "0.000000001"}, {-1, 9, "-0.000000001"}, {1000000000, 9, "1.000000000"}, {999999999, 9, "0.999999999"},
		{math.MinInt64, 0, "-9223372036854775808"}, {math.MaxInt64, 0, "9223372036854775807"}, {math.MaxInt64, 9, "9223372036.854775807"}, {math.MinInt64, 1, "-922337203685477580.8"},
	} {
		wantText(t, x.n, x.scale, x.want)
	}
}

// TestTextModel: P7.2, of numbers of all sizes.
func TestTextModel(t *testing.T) {
	for _, n := range someNumbers(1000) {
		for _, scale := range scales {
			want, _ := decimalOf(n, scale)
			wantText(t, n, scale, want)
		}
	}
}
