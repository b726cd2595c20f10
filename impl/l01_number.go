package impl

import "strconv"

// MaxValue is the greatest integer that is read from text, and the greatest divisor.
const MaxValue = 1000000000000

// maxDigits is the greatest width to which Digits fills up with zeros.
const maxDigits = 20

// FormatInt writes n in decimal.
func FormatInt(n int) string {
	return strconv.Itoa(n)
}

// ParseInt reads the decimal form of an integer in the range 0 to MaxValue.
func ParseInt(s string) (int, bool) {
	n, err := strconv.Atoi(s)
	if err != nil || n < 0 || n > MaxValue {
		return 0, false
	}
	// Atoi also reads signs and leading zeros, which the decimal form does not have.
	if FormatInt(n) != s {
		return 0, false
	}
	return n, true
}

// Min returns the smaller of a and b.
func Min(a int, b int) int {
	return min(a, b)
}

// Max returns the greater of a and b.
func Max(a int, b int) int {
	return max(a, b)
}

// Mod returns the remainder of n modulo m, which is never negative.
func Mod(n int, m int) int {
	if !isDivisor(m) {
		return 0
	}
	r := n % m
	// Go's remainder has the sign of n.
	if r < 0 {
		r += m
	}
	return r
}

// FloorDiv returns the quotient of n and m, rounded down.
func FloorDiv(n int, m int) int {
	if !isDivisor(m) {
		return 0
	}
	q := n / m
	// Go's quotient is rounded towards 0, which is up where n is negative.
	if n%m < 0 {
		q--
	}
	return q
}

func isDivisor(m int) bool {
	return 1 <= m && m <= MaxValue
}

// Digits returns n, or 0 if n is negative, with zeros in front up to width digits.
func Digits(n int, width int) string {
	text := FormatInt(Max(0, n))
	width = Min(width, maxDigits)
	// No difference of width and length is taken: it wraps around for the least width.
	for len(text) < width {
		text = "0" + text
	}
	return text
}
