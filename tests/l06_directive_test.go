package tests

import (
	"math/big"
	"regexp"
	"slices"
	"strconv"
	"strings"
	"testing"

	"loop.example/g03012/impl"
)

// directivePart is the rule of an element as a pattern: a name, and perhaps a token or a quoted string behind a =.
var directivePart = regexp.MustCompile("(?s)\\A([a-zA-Z0-9!#$%&'*+.^_|~`-]{1,40})(?:[\t ]*(=)[\t ]*(?:([a-zA-Z0-9!#$%&'*+.^_|~`-]{1,40})|\"((?:\\\\.|[^\"\\\\])*)\"))?\\z")

func directivesBy(s string) []impl.Directive {
	l := []impl.Directive{}
	for _, part := range splitBy(s) {
		m := directivePart.FindStringSubmatch(part)
		if m != nil {
			l = append(l, impl.Directive{Name: strings.ToLower(m[1]), Value: m[3] + escaped.ReplaceAllString(m[4], "$1"), Has: m[2] != ""})
		}
	}
	return l
}

// plain is a directive without a value.
func plain(name string) impl.Directive {
	return impl.Directive{Name: name}
}

func valued(name string, value string) impl.Directive {
	return impl.Directive{Name: name, Value: value, Has: true}
}

func checkDirectives(t *testing.T, s string, want ...impl.Directive) {
	t.Helper()
	if got := impl.ParseDirectives(s); !slices.Equal(got, want) {
		t.Errorf("ParseDirectives(%q) = %+v, want %+v", s, got, want)
	}
}

// checkNewMemory calls f twice with an argument that has room behind it, writes over all that belongs to the first result,
// and looks whether the argument, its room or the second result has changed.
func checkNewMemory[A, R comparable](t *testing.T, what string, l []A, room A, f func([]A) []R) {
	t.Helper()
	whole := append(slices.Clone(l), room, room, room)
	kept := slices.Clone(whole)
	first, second := f(whole[:len(l)]), f(whole[:len(l)])
	result := slices.Clone(second)
	if !slices.Equal(whole, kept) {
		t.Errorf("%s changes its argument from %+v to %+v", what, kept, whole)
	}
	clear(first[:cap(first)])
	if !slices.Equal(whole, kept) {
		t.Errorf("%s shares memory with its argument: %+v", what, whole)
	}
	if !slices.Equal(second, result) {
		t.Errorf("%s shares memory with another result: %+v", what, second)
	}
}

// variantsOf calls f with the beginnings and the ends of a text, and with the text with each byte changed, left out and put in.
func variantsOf(s string, f func(string)) {
	for i := range len(s) + 1 {
		f(s[:i])
		f(s[i:])
		for b := range 256 {
			one := string([]byte{byte(b)})
			f(s[:i] + one + s[i:])
			if i < len(s) {
				f(s[:i] + one + s[i+1:])
			}
		}
		if i < len(s) {
			f(s[:i] + s[i+1:])
		}
	}
}

func TestForever(t *testing.T) {
	if impl.Forever != 2147483648 {
		t.Error(impl.Forever)
	}
}

func TestParseDirectives(t *testing.T) {
	forty := "abcdefghijklmnopqrstuvwxyz0123456789-abc"
	// No directives, and empty elements.
	checkDirectives(t, "")
	checkDirectives(t, " \t ")
	checkDirectives(t, ",")
	checkDirectives(t, " ,, \t,")
	checkDirectives(t, ",a,, b ,", plain("a"), plain("b"))
	checkDirectives(t, "no-store", plain("no-store"))
	checkDirectives(t, "max-age=60", valued("max-age", "60"))
	checkDirectives(t, "no-cache, max-age=60,public", plain("no-cache"), valued("max-age", "60"), plain("public"))
	checkDirectives(t, "Max-Age=60, private=\"a, b\", no-cache, x y, =3, s-maxage=\"7\", max-age=9", valued("max-age", "60"), valued("private", "a, b"), plain("no-cache"), valued("s-maxage", "7"), valued("max-age", "9"))
	// Names in mixed case; values keep theirs.
	checkDirectives(t, "NO-Cache, MAX-AGE=ABC, nO-cACHE=\"Set-Cookie\"", plain("no-cache"), valued("max-age", "ABC"), valued("no-cache", "Set-Cookie"))
	// Blanks around all parts.
	checkDirectives(t, "\t a =\t1 ,  b\t,c= \"x\" ", valued("a", "1"), plain("b"), valued("c", "x"))
	// Names that are no tokens.
	checkDirectives(t, "=, =1, =\"a\", a b, a b=1, \"a\", \"a\"=1, a\"b, a(b), grün=1, a/b=2, \xff, a;b=1, @=1")
	checkDirectives(t, forty+","+forty+"=1", plain(forty), valued(forty, "1"))
	checkDirectives(t, forty+"d, "+forty+"d=1, b", plain("b"))
	// A = with nothing behind it.
	checkDirectives(t, "a=")
	checkDirectives(t, "a= , b=\t,c", plain("c"))
	// Values that are neither tokens nor quoted strings.
	checkDirectives(t, "a=b c, a=b=c, a==, a==b, a=(b), a=b;c, a=x\"y\", a='b c', a=grün, a=\xff, a=\\, a=b/c")
	checkDirectives(t, "a="+forty+", b="+forty+"d", valued("a", forty))
	checkDirectives(t, "a="+strings.Repeat("9", 40)+", b="+strings.Repeat("9", 41), valued("a", strings.Repeat("9", 40)))
	// Quoted strings, with commas, =, quotes and backslashes in them.
	checkDirectives(t, `a=""`, valued("a", ""))
	checkDirectives(t, `a=" ", b="	"`, valued("a", " "), valued("b", "\t"))
	checkDirectives(t, `a="x, y=\"z\\\"", b`, valued("a", `x, y="z\"`), plain("b"))
	checkDirectives(t, `a="\x\,", b="=", c=","`, valued("a", "x,"), valued("b", "="), valued("c", ","))
	checkDirectives(t, "a=\"\x00\xff\r\n\"", valued("a", "\x00\xff\r\n"))
	checkDirectives(t, `a="`+strings.Repeat("9", 41)+`"`, valued("a", strings.Repeat("9", 41)))
	checkDirectives(t, `a="`+strings.Repeat(`\"`, 3000)+`"`, valued("a", strings.Repeat(`"`, 3000)))
	// Quoted strings that do not end, or have bytes behind them.
	checkDirectives(t, `a="x`)
	checkDirectives(t, `a="`)
	checkDirectives(t, `a="x\"`)
	checkDirectives(t, `a="\`)
	checkDirectives(t, `b, a="x, c, d=1`, plain("b"))
	checkDirectives(t, `a="x"y, b="x""y", c="x" ", d`)
	checkDirectives(t, `a="x"y, b="x" y, c=""z, d="x"=, e`, plain("e"))
	// A directive that stands more than once.
	checkDirectives(t, "a=1, A=2, a, a=\"3\"", valued("a", "1"), valued("a", "2"), plain("a"), valued("a", "3"))
}

func TestParseDirectivesAgainstAPattern(t *testing.T) {
	check := func(s string) {
		t.Helper()
		want := directivesBy(s)
		if got := impl.ParseDirectives(s); !slices.Equal(got, want) {
			t.Fatalf("ParseDirectives(%q) = %+v, want %+v", s, got, want)
		}
	}
	textsOf("aB=,\"\\ ", 6, check)
	textsOf("x,\"\\ \xff", 5, func(s string) {
		check("a=" + s)
		check("a=\"" + s + "\"")
		check("b, a=\"" + s + "\", C=1")
	})
	for b := range 256 {
		one := string([]byte{byte(b)})
		for _, s := range []string{one, one + "a", "a" + one, "a" + one + "=1", "a=" + one, "a=1" + one, "a=\"" + one + "\"", "a=\"\\" + one + "\"", "a=\"x\"" + one, "a=" + one + "\"x\"", one + "=1"} {
			check(s)
			check("b, " + s + " , c=2")
		}
	}
	variantsOf("Max-Age=60, private=\"a, \\\"b\", no-cache", check)
	for n := 35; n < 45; n++ {
		check(strings.Repeat("a", n) + "=1")
		check("a=" + strings.Repeat("1", n))
		check("a=\"" + strings.Repeat("1", n) + "\"")
	}
	check(strings.Repeat("a=1,b=\"2\",,=", 3000))
	check("a=" + impl.QuoteText(manyBytes()))
}

func TestFormatDirectives(t *testing.T) {
	for _, x := range []struct {
		l    []impl.Directive
		want string
	}{
		{nil, ""}, {[]impl.Directive{}, ""}, {[]impl.Directive{plain("a")}, "a"}, {[]impl.Directive{valued("a", "1")}, "a=1"},
		{[]impl.Directive{valued("max-age", "60"), valued("private", "a, b"), plain("no-cache")}, "max-age=60, private=\"a, b\", no-cache"},
		{[]impl.Directive{valued("a", "")}, `a=""`}, {[]impl.Directive{valued("a", " ")}, `a=" "`}, {[]impl.Directive{valued("a", `x"y\z`)}, `a="x\"y\\z"`}, {[]impl.Directive{valued("a", "=")}, `a="="`}, {[]impl.Directive{valued("a", `"x"`)}, `a="\"x\""`},
		{[]impl.Directive{valued("a", strings.Repeat("v", 40)), valued("b", strings.Repeat("v", 41))}, "a=" + strings.Repeat("v", 40) + `, b="` + strings.Repeat("v", 41) + `"`},
		{[]impl.Directive{valued("a", "\x00\xff")}, "a=\"\x00\xff\""},
		// Names as they are, and no value without Has.
		{[]impl.Directive{plain("A b"), plain(""), valued("", "1"), valued("Max-Age", "X")}, "A b, , =1, Max-Age=X"}, {[]impl.Directive{{Name: "a", Value: "1"}, {Name: "b", Value: "x y"}}, "a, b"},
		{[]impl.Directive{plain("a"), plain("a"), valued("a", "2")}, "a, a, a=2"},
	} {
		if got := impl.FormatDirectives(x.l); got != x.want {
			t.Errorf("FormatDirectives(%+v) = %q, want %q", x.l, got, x.want)
		}
	}
}

func TestDirectivesThatAreWrittenAreReadBack(t *testing.T) {
	check := func(l ...impl.Directive) {
		t.Helper()
		s := impl.FormatDirectives(l)
		got := impl.ParseDirectives(s)
		if !slices.Equal(got, l) || impl.FormatDirectives(got) != s {
			t.Fatalf("ParseDirectives(%q) = %+v, want %+v", s, got, l)
		}
	}
	check()
	textsOf("a\"\\, =", 5, func(s string) {
		check(valued("a", s))
		check(plain("b"), valued("a-b", s), valued("a-b", s), plain("c"))
	})
	for b := range 256 {
		one := string([]byte{byte(b)})
		check(valued("a", one), valued("b", one+one), valued("c", "x"+one), valued("d", one+"x"))
		if strings.Contains(tokenBytes, one) && (b < 'A' || b > 'Z') {
			check(plain(one), valued(one, one), plain("x"+one))
		}
	}
	check(valued("a", manyBytes()), valued(strings.Repeat("n", 40), strings.Repeat("\"", 5000)), plain(strings.Repeat("n", 40)))
	for n := range 60 {
		check(valued("a", strings.Repeat("v", n)), plain("b"))
	}
}

func TestFindDirective(t *testing.T) {
	l := []impl.Directive{plain("b"), valued("a", "1"), valued("a", "2"), plain("A"), valued("", "x"), plain("a b")}
	for name, want := range map[string]int{"b": 0, "a": 1, "A": 3, "": 4, "a b": 5, "B": -1, "c": -1, "ab": -1, "a ": -1, "1": -1, "a=1": -1} {
		if got := impl.FindDirective(l, name); got != want {
			t.Errorf("FindDirective(%q) = %d, want %d", name, got, want)
		}
		if got := impl.HasDirective(l, name); got != (want >= 0) {
			t.Errorf("HasDirective(%q) = %v, want %v", name, got, want >= 0)
		}
	}
	for _, name := range []string{"", "a"} {
		if impl.FindDirective(nil, name) != -1 || impl.HasDirective(nil, name) {
			t.Errorf("FindDirective finds %q in no directives", name)
		}
	}
	read := impl.ParseDirectives("No-Store, Max-Age=5")
	if impl.FindDirective(read, "max-age") != 1 || impl.FindDirective(read, "Max-Age") != -1 || impl.HasDirective(read, "NO-STORE") || !impl.HasDirective(read, "no-store") {
		t.Errorf("names are not compared byte by byte in %+v", read)
	}
}

// secondsBy reads numbers of any size.
func secondsBy(s string) int {
	n, ok := new(big.Int).SetString("0"+s, 10)
	if !ok || strings.Trim(s, "0123456789") != "" {
		return 0
	}
	if n.Cmp(big.NewInt(impl.Forever)) > 0 {
		return impl.Forever
	}
	return int(n.Int64())
}

func checkSeconds(t *testing.T, value string, want int) {
	t.Helper()
	for _, l := range [][]impl.Directive{{valued("a", value)}, {plain("b"), valued("A", "3"), valued("a", value), valued("a", "4"), plain("a")}} {
		if got, ok := impl.SecondsOf(l, "a"); got != want || !ok {
			t.Errorf("SecondsOf(%q) = %d, %v, want %d, true", value, got, ok, want)
		}
	}
}

func TestSecondsOf(t *testing.T) {
	for s, want := range map[string]int{
		"0": 0, "1": 1, "9": 9, "10": 10, "60": 60, "86400": 86400, "": 0,
		// Leading zeros.
		"00": 0, "007": 7, "0000000000000000000000000000000000060": 60, strings.Repeat("0", 5000): 0, strings.Repeat("0", 5000) + "12": 12,
		// Just below, at and above Forever.
		"2147483646": 2147483646, "2147483647": 2147483647, "2147483648": 2147483648, "2147483649": 2147483648, "2147483650": 2147483648, "2147483658": 2147483648, "002147483647": 2147483647, "0099999999999": 2147483648,
		// Numbers that do not fit an int, or wrap around to small ones.
		"9223372036854775807": 2147483648, "9223372036854775808": 2147483648, "18446744073709551615": 2147483648, "18446744073709551616": 2147483648, "18446744073709551617": 2147483648, "36893488147419103233": 2147483648,
		"4294967296": 2147483648, "4294967297": 2147483648, "340282366920938463463374607431768211457": 2147483648, "1" + strings.Repeat("0", 64): 2147483648, "1" + strings.Repeat("0", 5000): 2147483648, strings.Repeat("9", 5000): 2147483648,
		// Another byte.
		"x": 0, "5x": 0, "x5": 0, "5x5": 0, " 5": 0, "5 ": 0, "5 5": 0, "+5": 0, "-5": 0, "5.0": 0, "0x10": 0, "1e3": 0, "1_000": 0, "5,6": 0, "\"5\"": 0, "\x005": 0, "5\n": 0, "\u0665": 0, "\xff": 0,
		strings.Repeat("9", 30) + "x": 0, "x" + strings.Repeat("9", 30): 0, strings.Repeat("9", 30) + "x" + strings.Repeat("9", 30): 0,
	} {
		checkSeconds(t, s, want)
	}
}

func TestSecondsAgainstBigNumbers(t *testing.T) {
	for _, n := range numbers() {
		s := strconv.Itoa(n)
		checkSeconds(t, s, secondsBy(s))
		checkSeconds(t, "000"+s, secondsBy("000"+s))
		for d := range 10 {
			more := s + strconv.Itoa(d)
			checkSeconds(t, more, secondsBy(more))
		}
	}
	for b := range 256 {
		one := string([]byte{byte(b)})
		for _, s := range []string{one, one + "7", "7" + one, "7" + one + "7", one + one} {
			checkSeconds(t, s, secondsBy(s))
		}
	}
	textsOf("059a", 6, func(s string) { checkSeconds(t, s, secondsBy(s)) })
}

func TestSecondsOfWhichDirective(t *testing.T) {
	l := impl.ParseDirectives("No-Cache, Max-Age=60, private=\"a, b\", max-age=9, S-MaxAge=\"007\", x=\"\", y=\"99999999999\", max-stale, max-stale=5")
	for name, want := range map[string]int{"max-age": 60, "no-cache": 0, "private": 0, "s-maxage": 7, "x": 0, "y": impl.Forever, "max-stale": 0} {
		if got, ok := impl.SecondsOf(l, name); got != want || !ok {
			t.Errorf("SecondsOf(%q) = %d, %v, want %d, true", name, got, ok, want)
		}
	}
	for _, name := range []string{"Max-Age", "MAX-AGE", "no-store", "", "max", "max-age ", "60"} {
		if got, ok := impl.SecondsOf(l, name); got != 0 || ok {
			t.Errorf("SecondsOf(%q) = %d, %v, want 0, false", name, got, ok)
		}
	}
	if got, ok := impl.SecondsOf(nil, "a"); got != 0 || ok {
		t.Errorf("SecondsOf of no directives = %d, %v, want 0, false", got, ok)
	}
	// The first one counts, whatever is behind it.
	if got, ok := impl.SecondsOf([]impl.Directive{valued("a", "x"), valued("a", "5")}, "a"); got != 0 || !ok {
		t.Errorf("SecondsOf = %d, %v, want 0, true", got, ok)
	}
}

func TestDirectivesShareNoMemory(t *testing.T) {
	l := []impl.Directive{plain("b"), valued("a", "1"), valued("c", "x y")}
	checkNewMemory(t, "ParseDirectives", l, plain("room"), func(l []impl.Directive) []impl.Directive {
		return impl.ParseDirectives("a=1, b, c=\"x\"")
	})
	checkNewMemory(t, "FormatDirectives", l, plain("room"), func(l []impl.Directive) []string {
		impl.SecondsOf(l, "a")
		return []string{impl.FormatDirectives(l), strconv.Itoa(impl.FindDirective(l, "a")), strconv.FormatBool(impl.HasDirective(l, "z"))}
	})
}
