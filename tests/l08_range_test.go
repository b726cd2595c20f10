package tests

import (
	"math"
	"math/big"
	"regexp"
	"slices"
	"strconv"
	"strings"
	"testing"

	"loop.example/g03012/impl"
)

// The same rules as patterns: an ask, and a content range.
var (
	writtenAsk          = regexp.MustCompile(`\A(?:(0|[1-9][0-9]*)-(0|[1-9][0-9]*)?|-(0|[1-9][0-9]*))\z`)
	writtenContentRange = regexp.MustCompile(`\Abytes (?:\*|(0|[1-9][0-9]*)-(0|[1-9][0-9]*))/(0|[1-9][0-9]*)\z`)
)

// numberBy reads digits up to MaxValue, and nothing as other.
func numberBy(s string, other int) (int, bool) {
	if s == "" {
		return other, true
	}
	n, ok := new(big.Int).SetString(s, 10)
	if !ok || n.Cmp(big.NewInt(1000000000000)) > 0 {
		return 0, false
	}
	return int(n.Int64()), true
}

func rangesBy(s string) ([]impl.Ask, bool) {
	if !strings.HasPrefix(s, "bytes=") {
		return nil, false
	}
	l := []impl.Ask{}
	for _, part := range splitBy(s[6:]) {
		m := writtenAsk.FindStringSubmatch(part)
		if m == nil {
			return nil, false
		}
		from, fromOK := numberBy(m[1], -1)
		to, toOK := numberBy(m[2]+m[3], -1)
		if !fromOK || !toOK || from >= 0 && to >= 0 && from > to {
			return nil, false
		}
		l = append(l, impl.Ask{From: from, To: to})
	}
	if len(l) == 0 || len(l) > 6 {
		return nil, false
	}
	return l, true
}

func contentRangeBy(s string) (impl.Span, int, bool) {
	m := writtenContentRange.FindStringSubmatch(s)
	if m == nil {
		return impl.Span{}, 0, false
	}
	a, aOK := numberBy(m[1], 0)
	b, bOK := numberBy(m[2], -1)
	n, nOK := numberBy(m[3], 0)
	if !aOK || !bOK || !nOK || m[1] != "" && (a > b || b >= n) {
		return impl.Span{}, 0, false
	}
	return impl.Span{From: a, To: b + 1}, n, true
}

// spanBy works out in numbers of any size which bytes an ask means, and whether there are any.
func spanBy(x impl.Ask, length int) (impl.Span, bool) {
	size := big.NewInt(int64(length))
	from, to := big.NewInt(int64(x.From)), new(big.Int).Add(big.NewInt(int64(x.To)), big.NewInt(1))
	if x.From < 0 {
		from, to = new(big.Int).Sub(size, big.NewInt(int64(x.To))), size
		if x.To < 0 {
			return impl.Span{}, false
		}
		if from.Sign() < 0 {
			from = new(big.Int)
		}
	} else if x.To < 0 || to.Cmp(size) > 0 {
		to = size
	}
	if from.Cmp(to) >= 0 {
		return impl.Span{}, false
	}
	return impl.Span{From: int(from.Int64()), To: int(to.Int64())}, true
}

// edgeNumbers are integers near the places where sums wrap around, and small ones.
func edgeNumbers() []int {
	return []int{math.MinInt, math.MinInt + 1, math.MinInt + 2, -impl.MaxValue - 1, -impl.MaxValue, -10, -3, -2, -1, 0, 1, 2, 3, 9, 10, 11, impl.MaxValue - 1, impl.MaxValue, impl.MaxValue + 1, math.MaxInt - 2, math.MaxInt - 1, math.MaxInt}
}

func span(from int, to int) impl.Span {
	return impl.Span{From: from, To: to}
}

func ask(from int, to int) impl.Ask {
	return impl.Ask{From: from, To: to}
}

func checkRanges(t *testing.T, s string) {
	t.Helper()
	want, wantOK := rangesBy(s)
	if got, ok := impl.ParseRanges(s); !slices.Equal(got, want) || ok != wantOK {
		t.Fatalf("ParseRanges(%q) = %v, %v, want %v, %v", s, got, ok, want, wantOK)
	}
}

func checkContentRange(t *testing.T, s string) {
	t.Helper()
	want, wantN, wantOK := contentRangeBy(s)
	if got, n, ok := impl.ParseContentRange(s); got != want || n != wantN || ok != wantOK {
		t.Fatalf("ParseContentRange(%q) = %v, %d, %v, want %v, %d, %v", s, got, n, ok, want, wantN, wantOK)
	}
}

func TestMaxRanges(t *testing.T) {
	if impl.MaxRanges != 6 {
		t.Error(impl.MaxRanges)
	}
}

func TestParseRanges(t *testing.T) {
	for s, want := range map[string][]impl.Ask{
		"bytes=0-4, -3,7-": {ask(0, 4), ask(-1, 3), ask(7, -1)},
		"bytes=0-0":        {ask(0, 0)}, "bytes=3-5": {ask(3, 5)}, "bytes=5-5": {ask(5, 5)}, "bytes=10-200": {ask(10, 200)}, "bytes=9-10": {ask(9, 10)},
		"bytes=0-": {ask(0, -1)}, "bytes=500-": {ask(500, -1)}, "bytes=-0": {ask(-1, 0)}, "bytes=-1": {ask(-1, 1)}, "bytes=-500": {ask(-1, 500)},
		"bytes= \t3-5\t ": {ask(3, 5)}, "bytes=,, 1- ,\t,-2,": {ask(1, -1), ask(-1, 2)}, "bytes=7-8,1-2,7-8": {ask(7, 8), ask(1, 2), ask(7, 8)},
		"bytes=0-1000000000000": {ask(0, 1000000000000)}, "bytes=1000000000000-": {ask(1000000000000, -1)}, "bytes=-1000000000000": {ask(-1, 1000000000000)}, "bytes=1000000000000-1000000000000": {ask(1000000000000, 1000000000000)},
		"bytes=1-1,2-2,3-3,4-4,5-,-6": {ask(1, 1), ask(2, 2), ask(3, 3), ask(4, 4), ask(5, -1), ask(-1, 6)}, "bytes=,1-1,2-2,,3-3,4-4,5-5,6-6,": {ask(1, 1), ask(2, 2), ask(3, 3), ask(4, 4), ask(5, 5), ask(6, 6)},
	} {
		if got, ok := impl.ParseRanges(s); !slices.Equal(got, want) || !ok {
			t.Errorf("ParseRanges(%q) = %v, %v, want %v, true", s, got, ok, want)
		}
	}
	for _, s := range []string{
		// Another beginning.
		"", "bytes", "0-1", "=0-1", "Bytes=0-1", "BYTES=0-1", "items=0-1", " bytes=0-1", "bytes =0-1", "bytes:0-1", "bytes 0-1", "byte=0-1", "bytess=0-1", "\"bytes=0-1\"",
		// No asks, or too many.
		"bytes=", "bytes= ", "bytes=,", "bytes= ,\t, ", "bytes=1-1,2-2,3-3,4-4,5-5,6-6,7-7", "bytes=0-,0-,0-,0-,0-,0-,0-", "bytes=" + strings.Repeat("0-,", 5000), "bytes=1-1,2-2,3-3,4-4,5-5,6-6,bad",
		// Elements that are no asks.
		"bytes=-", "bytes=--", "bytes=5", "bytes=a", "bytes=a-b", "bytes=5-3", "bytes=1-0", "bytes=10-9", "bytes=1-2-3", "bytes=1-2-", "bytes=1--2", "bytes=--1", "bytes=-1-", "bytes=-1-2", "bytes=0-1 2-3", "bytes=0-1;2-3", "bytes=*", "bytes=0-*", "bytes=bytes=0-1",
		"bytes=0-1,5-3", "bytes=5-3,0-1", "bytes=0-1,-", "bytes=0-1,x", "bytes=x,0-1",
		// Blanks within, signs, and numbers that are not read.
		"bytes=0 -1", "bytes=0- 1", "bytes=0 - 1", "bytes=- 1", "bytes=1 -", "bytes=+1-2", "bytes=1-+2", "bytes=-+2", "bytes=+1-", "bytes=01-2", "bytes=1-02", "bytes=00-", "bytes=-01", "bytes=-00", "bytes=0x1-2", "bytes=1.0-2", "bytes=\"0-1\"", "bytes=0-1\n", "bytes=0-1\x00", "bytes=\u0660-1", "bytes=0\u20131",
		"bytes=0-1000000000001", "bytes=1000000000001-", "bytes=-1000000000001", "bytes=1000000000001-1000000000002", "bytes=0-9223372036854775808", "bytes=18446744073709551616-", "bytes=-" + strings.Repeat("9", 5000),
	} {
		if got, ok := impl.ParseRanges(s); len(got) != 0 || ok {
			t.Errorf("ParseRanges(%q) = %v, %v, want none", s, got, ok)
		}
	}
}

func TestParseRangesAgainstAPattern(t *testing.T) {
	textsOf("012-, ", 6, func(s string) { checkRanges(t, "bytes="+s) })
	textsOf("1-,\"\\", 6, func(s string) { checkRanges(t, "bytes="+s) })
	textsOf("0-+\t", 6, func(s string) { checkRanges(t, "bytes="+s) })
	variantsOf("bytes=0-4, -13,7-", func(s string) { checkRanges(t, s) })
	for _, a := range edgeNumbers() {
		x := strconv.Itoa(a)
		checkRanges(t, "bytes="+x)
		checkRanges(t, "bytes=-"+x)
		checkRanges(t, "bytes="+x+"-")
		for _, b := range edgeNumbers() {
			checkRanges(t, "bytes="+x+"-"+strconv.Itoa(b))
		}
	}
	for n := range 10 {
		checkRanges(t, "bytes="+strings.Repeat("1-2,", n))
		checkRanges(t, "bytes="+strings.Repeat("1-2,", n)+"bad")
	}
}

func TestFormatRanges(t *testing.T) {
	for _, x := range []struct {
		l    []impl.Ask
		want string
	}{
		{nil, "bytes="}, {[]impl.Ask{}, "bytes="}, {[]impl.Ask{ask(0, 4)}, "bytes=0-4"}, {[]impl.Ask{ask(0, 4), ask(-1, 3), ask(7, -1)}, "bytes=0-4, -3, 7-"},
		{[]impl.Ask{ask(0, 0), ask(0, -1), ask(-1, 0)}, "bytes=0-0, 0-, -0"}, {[]impl.Ask{ask(5, 3)}, "bytes=5-3"},
		{[]impl.Ask{ask(-7, 3), ask(7, -9), ask(-2, -4), ask(-1, -1)}, "bytes=-3, 7-, --4, --1"},
		{[]impl.Ask{ask(math.MaxInt, math.MinInt), ask(math.MinInt, math.MaxInt), ask(math.MinInt, math.MinInt), ask(math.MaxInt, math.MaxInt)}, "bytes=9223372036854775807-, -9223372036854775807, --9223372036854775808, 9223372036854775807-9223372036854775807"},
		{slices.Repeat([]impl.Ask{ask(1, 2)}, 7), "bytes=1-2, 1-2, 1-2, 1-2, 1-2, 1-2, 1-2"},
	} {
		if got := impl.FormatRanges(x.l); got != x.want {
			t.Errorf("FormatRanges(%v) = %q, want %q", x.l, got, x.want)
		}
	}
}

// Ranges are read back, each alone and all the ones before it together.
func TestRangesAreReadBack(t *testing.T) {
	all := []impl.Ask{}
	for _, a := range edgeNumbers() {
		for _, b := range edgeNumbers() {
			x := ask(a, b)
			good := a == -1 && b >= 0 && b <= impl.MaxValue || a >= 0 && a <= impl.MaxValue && (b == -1 || b >= a && b <= impl.MaxValue)
			got, ok := impl.ParseRanges(impl.FormatRanges([]impl.Ask{x}))
			if good && (!ok || !slices.Equal(got, []impl.Ask{x})) {
				t.Errorf("ParseRanges(%q) = %v, %v, want %v", impl.FormatRanges([]impl.Ask{x}), got, ok, x)
			}
			if ok && !slices.Equal(got, []impl.Ask{x}) && a >= -1 && b >= -1 {
				t.Errorf("ParseRanges(%q) = %v, want %v", impl.FormatRanges([]impl.Ask{x}), got, x)
			}
			if good {
				all = append(all, x)
			}
		}
	}
	for i := range all {
		for n := 1; n <= 7 && i+n <= len(all); n++ {
			l := all[i : i+n]
			s := impl.FormatRanges(l)
			got, ok := impl.ParseRanges(s)
			if ok != (n <= 6) || ok && !slices.Equal(got, l) || !ok && len(got) != 0 {
				t.Errorf("ParseRanges(%q) = %v, %v, want %v", s, got, ok, l)
			}
		}
	}
}

func TestResolveRanges(t *testing.T) {
	for _, x := range []struct {
		l      []impl.Ask
		length int
		want   []impl.Span
	}{
		{nil, 10, nil}, {nil, 0, nil}, {[]impl.Ask{ask(0, 4), ask(-1, 3), ask(7, -1)}, 10, []impl.Span{span(0, 5), span(7, 10), span(7, 10)}},
		// The last bytes.
		{[]impl.Ask{ask(-1, 3)}, 10, []impl.Span{span(7, 10)}}, {[]impl.Ask{ask(-1, 10)}, 10, []impl.Span{span(0, 10)}}, {[]impl.Ask{ask(-1, 9)}, 10, []impl.Span{span(1, 10)}}, {[]impl.Ask{ask(-1, 11)}, 10, []impl.Span{span(0, 10)}}, {[]impl.Ask{ask(-1, math.MaxInt)}, 10, []impl.Span{span(0, 10)}},
		{[]impl.Ask{ask(-1, 0)}, 10, nil}, {[]impl.Ask{ask(-1, -1)}, 10, nil}, {[]impl.Ask{ask(-1, -20)}, 10, nil}, {[]impl.Ask{ask(-5, 2)}, 10, []impl.Span{span(8, 10)}}, {[]impl.Ask{ask(math.MinInt, 1)}, 10, []impl.Span{span(9, 10)}}, {[]impl.Ask{ask(math.MinInt, math.MinInt)}, 10, nil},
		// From at, just below and beyond the length; to the end.
		{[]impl.Ask{ask(9, -1)}, 10, []impl.Span{span(9, 10)}}, {[]impl.Ask{ask(10, -1), ask(11, -1), ask(math.MaxInt, -1)}, 10, nil}, {[]impl.Ask{ask(0, -7)}, 10, []impl.Span{span(0, 10)}}, {[]impl.Ask{ask(3, math.MinInt)}, 10, []impl.Span{span(3, 10)}},
		// To at, just below and beyond the length.
		{[]impl.Ask{ask(8, 8), ask(8, 9), ask(8, 10), ask(8, 20), ask(8, math.MaxInt)}, 10, []impl.Span{span(8, 9), span(8, 10), span(8, 10), span(8, 10), span(8, 10)}}, {[]impl.Ask{ask(10, 10), ask(10, 20), ask(20, 30)}, 10, nil}, {[]impl.Ask{ask(9, 9)}, 10, []impl.Span{span(9, 10)}},
		// From greater than To.
		{[]impl.Ask{ask(5, 3), ask(5, 4), ask(5, 5), ask(20, 3)}, 10, []impl.Span{span(5, 6)}},
		// A page of no bytes, or of fewer.
		{[]impl.Ask{ask(0, 0), ask(0, -1), ask(-1, 3), ask(-1, 0), ask(2, 5)}, 0, nil}, {[]impl.Ask{ask(0, 0), ask(0, -1), ask(-1, 3), ask(-1, -9), ask(0, 5), ask(3, -20)}, -5, nil}, {[]impl.Ask{ask(0, math.MaxInt), ask(-1, math.MaxInt), ask(0, math.MinInt)}, math.MinInt, nil},
		// What is left out leaves the others in order.
		{[]impl.Ask{ask(20, -1), ask(4, 5), ask(-1, 0), ask(0, 1), ask(9, 2), ask(4, 5)}, 10, []impl.Span{span(4, 6), span(0, 2), span(4, 6)}},
		// The greatest pages.
		{[]impl.Ask{ask(-1, 1), ask(-1, math.MaxInt), ask(0, math.MaxInt), ask(math.MaxInt-1, -1), ask(math.MaxInt, -1), ask(2, math.MaxInt-1)}, math.MaxInt, []impl.Span{span(math.MaxInt-1, math.MaxInt), span(0, math.MaxInt), span(0, math.MaxInt), span(math.MaxInt-1, math.MaxInt), span(2, math.MaxInt)}},
		{slices.Repeat([]impl.Ask{ask(0, 0)}, 9), 1, slices.Repeat([]impl.Span{span(0, 1)}, 9)},
	} {
		if got := impl.ResolveRanges(x.l, x.length); !slices.Equal(got, x.want) {
			t.Errorf("ResolveRanges(%v, %d) = %v, want %v", x.l, x.length, got, x.want)
		}
	}
}

func TestResolvedRangesAgainstBigNumbers(t *testing.T) {
	for _, length := range edgeNumbers() {
		l, want := []impl.Ask{}, []impl.Span{}
		for _, a := range edgeNumbers() {
			for _, b := range edgeNumbers() {
				l = append(l, ask(a, b))
				one, ok := spanBy(ask(a, b), length)
				if ok {
					want = append(want, one)
				}
				got := impl.ResolveRanges(l[len(l)-1:], length)
				if ok && !slices.Equal(got, []impl.Span{one}) || !ok && len(got) != 0 {
					t.Errorf("ResolveRanges([%d %d], %d) = %v, want %v, %v", a, b, length, got, one, ok)
				}
			}
		}
		if got := impl.ResolveRanges(l, length); !slices.Equal(got, want) {
			t.Errorf("ResolveRanges of all asks and %d = %v, want %v", length, got, want)
		}
	}
}

// asksFor tells whether an ask means a byte of a page.
func asksFor(x impl.Ask, length int, byteAt int) bool {
	if x.From < 0 {
		return byteAt >= length-x.To
	}
	return byteAt >= x.From && (x.To < 0 || byteAt <= x.To)
}

// Ranges lie within the page, and mean just the bytes that are asked for.
func TestRangesLieWithinThePage(t *testing.T) {
	for length := range 8 {
		for a := -3; a < 12; a++ {
			for b := -3; b < 12; b++ {
				spans := impl.ResolveRanges([]impl.Ask{ask(a, b)}, length)
				has := map[int]bool{}
				for _, x := range spans {
					if x.From < 0 || x.From >= x.To || x.To > length {
						t.Errorf("ResolveRanges([%d %d], %d) = %v", a, b, length, spans)
					}
					for i := x.From; i < x.To; i++ {
						has[i] = true
					}
				}
				for i := range length {
					if has[i] != asksFor(ask(a, b), length, i) {
						t.Errorf("ResolveRanges([%d %d], %d) = %v: byte %d", a, b, length, spans, i)
					}
				}
			}
		}
	}
}

func TestFormatContentRange(t *testing.T) {
	for _, x := range []struct {
		x      impl.Span
		length int
		want   string
	}{
		{span(0, 5), 10, "bytes 0-4/10"}, {span(0, 10), 10, "bytes 0-9/10"}, {span(9, 10), 10, "bytes 9-9/10"}, {span(0, 1), 1, "bytes 0-0/1"},
		{span(0, 0), 10, "bytes */10"}, {span(3, 3), 10, "bytes */10"}, {span(5, 3), 10, "bytes */10"}, {span(0, 0), 0, "bytes */0"}, {span(0, 0), -3, "bytes */-3"}, {span(-1, -1), 4, "bytes */4"}, {span(0, math.MinInt), 4, "bytes */4"}, {span(math.MaxInt, math.MinInt), math.MinInt, "bytes */-9223372036854775808"}, {span(math.MinInt, math.MinInt), 1, "bytes */1"},
		// Spans and lengths that no page has are written as they are.
		{span(5, 20), 10, "bytes 5-19/10"}, {span(0, 1), 0, "bytes 0-0/0"}, {span(0, 1), -1, "bytes 0-0/-1"}, {span(-3, 2), 10, "bytes -3-1/10"}, {span(-3, 0), 10, "bytes -3--1/10"}, {span(math.MinInt, math.MaxInt), math.MaxInt, "bytes -9223372036854775808-9223372036854775806/9223372036854775807"}, {span(math.MinInt, math.MinInt+1), 0, "bytes -9223372036854775808--9223372036854775808/0"},
	} {
		if got := impl.FormatContentRange(x.x, x.length); got != x.want {
			t.Errorf("FormatContentRange(%v, %d) = %q, want %q", x.x, x.length, got, x.want)
		}
	}
}

func TestParseContentRange(t *testing.T) {
	for s, want := range map[string][3]int{
		"bytes 3-9/10": {3, 10, 10}, "bytes 0-0/1": {0, 1, 1}, "bytes 0-8/10": {0, 9, 10}, "bytes 9-9/10": {9, 10, 10}, "bytes 0-4/600": {0, 5, 600},
		"bytes */10": {0, 0, 10}, "bytes */0": {0, 0, 0}, "bytes */1000000000000": {0, 0, 1000000000000},
		"bytes 0-999999999999/1000000000000": {0, 1000000000000, 1000000000000}, "bytes 999999999999-999999999999/1000000000000": {999999999999, 1000000000000, 1000000000000},
	} {
		if x, n, ok := impl.ParseContentRange(s); x != span(want[0], want[1]) || n != want[2] || !ok {
			t.Errorf("ParseContentRange(%q) = %v, %d, %v, want %v, true", s, x, n, ok, want)
		}
	}
	for _, s := range []string{
		"", "bytes", "bytes ", "bytes /", "bytes /10", "bytes */", "bytes *", "bytes 3-9", "bytes 3-9/", "bytes 3/10", "bytes -/10", "bytes 3-/10", "bytes -9/10", "bytes -1/10", "bytes 0-/0", "bytes -0/10", "bytes *-9/10", "bytes 3-*/10", "bytes **/10",
		// b at and above n, and a above b.
		"bytes 3-10/10", "bytes 3-11/10", "bytes 0-0/0", "bytes 9-3/10", "bytes 1-0/10", "bytes 10-9/20", "bytes 10-10/10", "bytes 0-1000000000000/1000000000000",
		// Another beginning, or bytes behind the text.
		"3-9/10", "*/10", " bytes 3-9/10", "bytes=3-9/10", "Bytes 3-9/10", "BYTES */10", "items 3-9/10", "bytes\t3-9/10", "bytes  3-9/10", "bytes3-9/10", "bytes 3-9/10 ", "bytes 3-9/10x", "bytes 3-9/10\r\n", "bytes */10 ", "bytes */10/10", "bytes 3-9/10/20", "bytes 3-9/10, 11", "bytes 3-9-10/20", "bytes */*", "bytes 3-9/*",
		// Numbers that are not read.
		"bytes 03-9/10", "bytes 3-09/10", "bytes 3-9/010", "bytes */00", "bytes +3-9/10", "bytes 3-+9/10", "bytes 3-9/+10", "bytes -3-9/10", "bytes 3--9/10", "bytes 3-9/-10", "bytes */-1", "bytes 3 -9/10", "bytes 3- 9/10", "bytes 3-9 /10", "bytes 3-9/ 10", "bytes * /10", "bytes  */10", "bytes a-b/c", "bytes 0x3-9/10", "bytes 3-9/1\x000", "bytes \u0663-9/10",
		"bytes 3-9/1000000000001", "bytes */1000000000001", "bytes 1000000000001-1000000000002/1000000000003", "bytes 0-18446744073709551616/10", "bytes */" + strings.Repeat("9", 5000),
	} {
		if x, n, ok := impl.ParseContentRange(s); x != (impl.Span{}) || n != 0 || ok {
			t.Errorf("ParseContentRange(%q) = %v, %d, %v, want none", s, x, n, ok)
		}
	}
}

func TestParseContentRangeAgainstAPattern(t *testing.T) {
	textsOf("012-/*", 6, func(s string) { checkContentRange(t, "bytes "+s) })
	textsOf("1-/ +", 6, func(s string) { checkContentRange(t, "bytes "+s) })
	variantsOf("bytes 3-9/10", func(s string) { checkContentRange(t, s) })
	variantsOf("bytes */10", func(s string) { checkContentRange(t, s) })
}

func TestContentRangesAreReadBack(t *testing.T) {
	for _, a := range edgeNumbers() {
		for _, b := range edgeNumbers() {
			for _, n := range edgeNumbers() {
				s := impl.FormatContentRange(span(a, b), n)
				x, length, ok := impl.ParseContentRange(s)
				switch {
				case n < 0 || n > impl.MaxValue || a < b && (a < 0 || b > n):
					if x != (impl.Span{}) || length != 0 || ok {
						t.Errorf("ParseContentRange(%q) = %v, %d, %v, want none", s, x, length, ok)
					}
				case a < b:
					if x != span(a, b) || length != n || !ok {
						t.Errorf("ParseContentRange(%q) = %v, %d, %v, want %v, %d, true", s, x, length, ok, span(a, b), n)
					}
				default:
					if x != (impl.Span{}) || length != n || !ok {
						t.Errorf("ParseContentRange(%q) = %v, %d, %v, want the zero span, %d, true", s, x, length, ok, n)
					}
				}
			}
		}
	}
	for n := range 9 {
		for b := range n {
			for a := range b + 1 {
				s := "bytes " + strconv.Itoa(a) + "-" + strconv.Itoa(b) + "/" + strconv.Itoa(n)
				if x, length, ok := impl.ParseContentRange(s); !ok || impl.FormatContentRange(x, length) != s {
					t.Errorf("FormatContentRange(%v, %d) is not %q", x, length, s)
				}
			}
		}
	}
}

func TestRangesShareNoMemory(t *testing.T) {
	l := []impl.Ask{ask(0, 4), ask(-1, 3), ask(20, -1), ask(7, -1)}
	checkNewMemory(t, "ResolveRanges", l, ask(1, 1), func(l []impl.Ask) []impl.Span { return impl.ResolveRanges(l, 10) })
	checkNewMemory(t, "ParseRanges", l, ask(1, 1), func([]impl.Ask) []impl.Ask {
		got, _ := impl.ParseRanges("bytes=0-4, -3,7-")
		return got
	})
	checkNewMemory(t, "FormatRanges", l, ask(1, 1), func(l []impl.Ask) []string { return []string{impl.FormatRanges(l)} })
}
