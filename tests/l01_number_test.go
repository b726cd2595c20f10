package tests

import (
	"math"
	"math/big"
	"strings"
	"testing"

	"loop.example/g03012/impl"
)

// numbers are the integers at which the functions of chapter 1 change what they do, with their neighbours.
func numbers() []int {
	l := []int{math.MinInt, math.MinInt + 1, math.MaxInt - 1, math.MaxInt}
	for n := -120; n <= 120; n++ {
		l = append(l, n)
	}
	for p := 1000; p <= math.MaxInt/10; p *= 10 {
		l = append(l, p-1, p, p+1, -p-1, -p, -p+1)
	}
	for k := 8; k <= 62; k++ {
		l = append(l, 1<<k-1, 1<<k, 1<<k+1, -1<<k-1, -1<<k, -1<<k+1)
	}
	return l
}

func TestMaxValue(t *testing.T) {
	if impl.MaxValue != 1000000000000 {
		t.Error(impl.MaxValue)
	}
}

func TestFormatInt(t *testing.T) {
	for n, want := range map[int]string{
		0: "0", 1: "1", 9: "9", 10: "10", 100: "100", 1203: "1203", -1: "-1", -10: "-10", -705: "-705",
		impl.MaxValue: "1000000000000", -impl.MaxValue: "-1000000000000",
		math.MaxInt: "9223372036854775807", math.MinInt: "-9223372036854775808",
	} {
		if got := impl.FormatInt(n); got != want {
			t.Errorf("FormatInt(%d) = %q, want %q", n, got, want)
		}
	}
	for _, n := range numbers() {
		if got, want := impl.FormatInt(n), big.NewInt(int64(n)).String(); got != want {
			t.Errorf("FormatInt(%d) = %q, want %q", n, got, want)
		}
	}
}

func TestParseIntReadsDecimalForms(t *testing.T) {
	for s, want := range map[string]int{
		"0": 0, "1": 1, "5": 5, "9": 9, "10": 10, "42": 42, "1000": 1000, "1234567890": 1234567890,
		"2147483648": 2147483648, "4294967296": 4294967296,
		"999999999999": 999999999999, "1000000000000": 1000000000000,
	} {
		if n, ok := impl.ParseInt(s); n != want || !ok {
			t.Errorf("ParseInt(%q) = %d, %v, want %d, true", s, n, ok, want)
		}
	}
}

func TestParseIntReadsWhatIsWritten(t *testing.T) {
	for _, n := range numbers() {
		s := impl.FormatInt(n)
		got, ok := impl.ParseInt(s)
		if n < 0 || n > impl.MaxValue {
			if got != 0 || ok {
				t.Errorf("ParseInt(%q) = %d, %v, want 0, false", s, got, ok)
			}
		} else if got != n || !ok {
			t.Errorf("ParseInt(%q) = %d, %v, want %d, true", s, got, ok, n)
		}
	}
	for n := 0; n <= 20000; n++ {
		if got, ok := impl.ParseInt(impl.FormatInt(n)); got != n || !ok {
			t.Errorf("ParseInt of %d = %d, %v", n, got, ok)
		}
	}
}

func TestParseIntRejects(t *testing.T) {
	texts := []string{
		"", "-", "+", "--1", "-1", "-0", "-5", "+0", "+5", "-1000000000000",
		"00", "01", "05", "007", "0000000000000", "01000000000000", "00000000000000000000000001",
		"1000000000001", "1000000000010", "9999999999999", "10000000000000",
		"9223372036854775807", "9223372036854775808", "-9223372036854775808", "-9223372036854775809",
		"18446744073709551615", "18446744073709551616", "18446744073709551621", "340282366920938463463374607431768211461",
		" ", " 5", "5 ", "\t5", "5\n", "5\r\n", "1 2", "1,000", "1_000", "1.0", "1.", ".5", "1e3", "1E3",
		"x", "x1", "1x", "0x5", "0b1", "0o7", "a", "f", "Inf", "NaN", "nil",
		"/", ":", "1/", "1:", "/1", ":1", "1/2", "1:2", "\x00", "5\x00", "\x005", "\xff", "5\xff",
		"\u0665", "\uff15", "1\u0660", "\u22125", "5\u00a0", "\ufeff5",
		strings.Repeat("9", 5000), strings.Repeat("0", 5000), "1" + strings.Repeat("0", 5000), strings.Repeat("0", 5000) + "1",
	}
	for _, s := range texts {
		if n, ok := impl.ParseInt(s); n != 0 || ok {
			t.Errorf("ParseInt(%q) = %d, %v, want 0, false", s, n, ok)
		}
	}
}

// Only the ten digits may stand in a number, in each of its places.
func TestParseIntAtEveryByte(t *testing.T) {
	for b := range 256 {
		digit := '0' <= b && b <= '9'
		one := string([]byte{byte(b)})
		for s, want := range map[string]bool{one: digit, "1" + one: digit, "1" + one + "2": digit, one + "2": digit && b != '0'} {
			if n, ok := impl.ParseInt(s); ok != want || !ok && n != 0 || ok && impl.FormatInt(n) != s {
				t.Errorf("ParseInt(%q) = %d, %v, want %v", s, n, ok, want)
			}
		}
	}
}

func TestMinAndMax(t *testing.T) {
	for _, x := range []struct{ a, b, least, greatest int }{
		{2, -3, -3, 2}, {-3, 2, -3, 2}, {0, 0, 0, 0}, {4, 4, 4, 4}, {-4, -4, -4, -4}, {-4, -5, -5, -4}, {0, -1, -1, 0}, {0, 1, 0, 1},
		{math.MinInt, math.MaxInt, math.MinInt, math.MaxInt}, {math.MaxInt, math.MinInt, math.MinInt, math.MaxInt},
		{math.MinInt, 1, math.MinInt, 1}, {math.MaxInt, -1, -1, math.MaxInt},
	} {
		if got := impl.Min(x.a, x.b); got != x.least {
			t.Errorf("Min(%d, %d) = %d, want %d", x.a, x.b, got, x.least)
		}
		if got := impl.Max(x.a, x.b); got != x.greatest {
			t.Errorf("Max(%d, %d) = %d, want %d", x.a, x.b, got, x.greatest)
		}
	}
}

func TestModAndFloorDiv(t *testing.T) {
	for _, x := range []struct{ n, m, mod, quotient int }{
		{0, 7, 0, 0}, {6, 7, 6, 0}, {7, 7, 0, 1}, {8, 7, 1, 1}, {14, 7, 0, 2}, {15, 7, 1, 2},
		{-1, 7, 6, -1}, {-6, 7, 1, -1}, {-7, 7, 0, -1}, {-8, 7, 6, -2}, {-14, 7, 0, -2}, {-15, 7, 6, -3},
		{5, 1, 0, 5}, {-5, 1, 0, -5}, {5, 2, 1, 2}, {-5, 2, 1, -3},
		{impl.MaxValue, impl.MaxValue, 0, 1}, {impl.MaxValue - 1, impl.MaxValue, impl.MaxValue - 1, 0},
		{-1, impl.MaxValue, impl.MaxValue - 1, -1}, {-impl.MaxValue, impl.MaxValue, 0, -1}, {-impl.MaxValue - 1, impl.MaxValue, impl.MaxValue - 1, -2},
		{math.MinInt, 1, 0, math.MinInt}, {math.MaxInt, 1, 0, math.MaxInt},
		{math.MinInt, 10, 2, -922337203685477581}, {math.MaxInt, 10, 7, 922337203685477580},
		{math.MinInt, 3, 1, -3074457345618258603}, {math.MinInt, impl.MaxValue, 963145224192, -9223373},
	} {
		checkDivision(t, x.n, x.m, x.mod, x.quotient)
	}
}

func TestModAndFloorDivAgainstLargeNumbers(t *testing.T) {
	for _, n := range numbers() {
		for _, m := range numbers() {
			if m < 1 || m > impl.MaxValue {
				checkDivision(t, n, m, 0, 0)
				continue
			}
			// The quotient and the remainder of Euclid, for m above 0 those that are rounded down.
			q, r := new(big.Int).DivMod(big.NewInt(int64(n)), big.NewInt(int64(m)), new(big.Int))
			checkDivision(t, n, m, int(r.Int64()), int(q.Int64()))
		}
	}
}

func TestDivisorsOutOfRange(t *testing.T) {
	for _, n := range numbers() {
		for _, m := range []int{0, -1, -2, -7, -impl.MaxValue, math.MinInt, math.MinInt + 1, impl.MaxValue + 1, impl.MaxValue + 2, 2 * impl.MaxValue, math.MaxInt} {
			checkDivision(t, n, m, 0, 0)
		}
	}
}

func checkDivision(t *testing.T, n, m, mod, quotient int) {
	t.Helper()
	if got := impl.Mod(n, m); got != mod {
		t.Errorf("Mod(%d, %d) = %d, want %d", n, m, got, mod)
	}
	if got := impl.FloorDiv(n, m); got != quotient {
		t.Errorf("FloorDiv(%d, %d) = %d, want %d", n, m, got, quotient)
	}
}

func TestDigits(t *testing.T) {
	for _, x := range []struct {
		n, width int
		want     string
	}{
		{7, 3, "007"}, {7, 2, "07"}, {7, 1, "7"}, {7, 0, "7"}, {7, -1, "7"}, {7, -20, "7"}, {7, math.MinInt, "7"}, {7, math.MinInt + 1, "7"},
		{0, 0, "0"}, {0, 1, "0"}, {0, 4, "0000"}, {0, math.MinInt, "0"},
		{1234, 2, "1234"}, {1234, 3, "1234"}, {1234, 4, "1234"}, {1234, 5, "01234"}, {100, 5, "00100"},
		{-1, 2, "00"}, {-1, 0, "0"}, {-1, -5, "0"}, {-1234, 2, "00"}, {math.MinInt, 3, "000"},
		{5, 19, "0000000000000000005"}, {5, 20, "00000000000000000005"}, {5, 21, "00000000000000000005"},
		{5, 1000, "00000000000000000005"}, {5, math.MaxInt, "00000000000000000005"}, {-5, math.MaxInt, "00000000000000000000"},
		{math.MaxInt, 0, "9223372036854775807"}, {math.MaxInt, 19, "9223372036854775807"},
		{math.MaxInt, 20, "09223372036854775807"}, {math.MaxInt, 21, "09223372036854775807"}, {math.MaxInt, math.MaxInt, "09223372036854775807"},
		{math.MaxInt, math.MinInt, "9223372036854775807"},
	} {
		// Stop at the first one: without its cap, the greatest width would fill up for ever.
		if got := impl.Digits(x.n, x.width); got != x.want {
			t.Fatalf("Digits(%d, %d) = %q, want %q", x.n, x.width, got, x.want)
		}
	}
}

func TestDigitsHaveTheirWidth(t *testing.T) {
	for _, n := range numbers() {
		plain := "0"
		if n > 0 {
			plain = big.NewInt(int64(n)).String()
		}
		for width := -3; width <= 30; width++ {
			zeros := max(0, min(width, 20)-len(plain))
			if got, want := impl.Digits(n, width), strings.Repeat("0", zeros)+plain; got != want {
				t.Errorf("Digits(%d, %d) = %q, want %q", n, width, got, want)
			}
		}
	}
}
