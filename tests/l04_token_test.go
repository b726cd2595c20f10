package tests

import (
	"regexp"
	"slices"
	"strings"
	"testing"

	"loop.example/g03012/impl"
)

const tokenBytes = "abcdefghijklmnopqrstuvwxyzABCDEFGHIJKLMNOPQRSTUVWXYZ0123456789!#$%&'*+-.^_|~`"

// The same rules as patterns: a text up to a quote or the end, a quoted string, and a part of a list.
var (
	quotedRest = regexp.MustCompile(`(?s)\A(?:\\.|[^"\\])*(?:\\\z)?`)
	quotedText = regexp.MustCompile(`(?s)\A"(?:\\.|[^"\\])*"\z`)
	listPart   = regexp.MustCompile(`(?s)\A(?:"(?:\\.|[^"\\])*(?:"|\\?\z)|[^",])*`)
	escaped    = regexp.MustCompile(`(?s)\\(.)`)
)

func unquotedBy(s string) (string, bool) {
	if s == "" {
		return "", false
	}
	return escaped.ReplaceAllString(quotedRest.FindString(s[1:]), "$1"), quotedText.MatchString(s)
}

func splitBy(s string) []string {
	l := []string{}
	for {
		part := listPart.FindString(s)
		if trimmed := strings.Trim(part, "\t "); trimmed != "" {
			l = append(l, trimmed)
		}
		if part == s {
			return l
		}
		s = s[len(part)+1:]
	}
}

// textsOf calls f with all texts of these bytes up to a length.
func textsOf(bytes string, length int, f func(string)) {
	var grow func(string)
	grow = func(s string) {
		f(s)
		for i := 0; i < len(bytes) && len(s) < length; i++ {
			grow(s + bytes[i:i+1])
		}
	}
	grow("")
}

func TestIsToken(t *testing.T) {
	forty := "abcdefghijklmnopqrstuvwxyzABCDEFGHIJKLMN"
	for s, want := range map[string]bool{
		"a": true, "Z": true, "0": true, "a-b": true, "max-age": true, "Cache-Control": true, "x.y_z~1": true, "`": true, "|": true, "!#$%&'*+-.^_|~`": true,
		forty[:39]: true, forty: true, forty + "O": false, forty + forty: false, strings.Repeat("a", 40): true, strings.Repeat("a", 41): false, strings.Repeat("-", 40): true, strings.Repeat("a", 5000): false,
		"": false, " ": false, "a b": false, " a": false, "a ": false, "a\t": false, "\"a\"": false, "a=b": false, "a,b": false, "a;b": false, "a/b": false, "a:b": false, "(a)": false, "a\\": false, "a\n": false, "a\r\n": false, "\x00": false, "a\x00": false, "\x7f": false,
		"grün": false, "\xff": false, "a\x80": false, "\xe1": false, "\u212a": false, "\u0661": false, strings.Repeat("ä", 20): false,
		forty[:39] + " ": false, " " + forty[:39]: false, forty[:20] + "," + forty[:19]: false,
	} {
		if got := impl.IsToken(s); got != want {
			t.Errorf("IsToken(%q) = %v, want %v", s, got, want)
		}
	}
}

// Each byte, in each place of a token.
func TestTokensAtEveryByte(t *testing.T) {
	for b := range 256 {
		one := string([]byte{byte(b)})
		want := strings.Contains(tokenBytes, one)
		for _, s := range []string{one, one + "a", "a" + one, "a" + one + "a", strings.Repeat("a", 39) + one, one + strings.Repeat("a", 39), strings.Repeat(one, 40)} {
			if got := impl.IsToken(s); got != want {
				t.Errorf("IsToken(%q) = %v, want %v", s, got, want)
			}
		}
		for _, s := range []string{strings.Repeat(one, 41), strings.Repeat("a", 40) + one} {
			if impl.IsToken(s) {
				t.Errorf("IsToken(%q) = true, want false", s)
			}
		}
	}
}

func TestLowerText(t *testing.T) {
	for s, want := range map[string]string{
		"": "", "a": "a", "A": "a", "Z": "z", "Ab1": "ab1", "Cache-Control": "cache-control", "ABCDEFGHIJKLMNOPQRSTUVWXYZ": "abcdefghijklmnopqrstuvwxyz", "@A[Z`": "@a[z`", " A\tB ": " a\tb ",
		"GRÜN": "grÜn", "\u212a": "\u212a", "\u0130I": "\u0130i", "\xc0A\xff": "\xc0a\xff", "\xc3\x84": "\xc3\x84", "A\x00B": "a\x00b", "\u01c4": "\u01c4",
		strings.Repeat("Xy", 3000): strings.Repeat("xy", 3000),
	} {
		if got := impl.LowerText(s); got != want {
			t.Errorf("LowerText(%q) = %q, want %q", s, got, want)
		}
	}
	for b := range 256 {
		want := byte(b)
		if 'A' <= b && b <= 'Z' {
			want += 32
		}
		if got := impl.LowerText(string([]byte{byte(b), 'Q', byte(b)})); got != string([]byte{want, 'q', want}) {
			t.Errorf("LowerText of byte %d gives %q", b, got)
		}
	}
}

func TestTrimText(t *testing.T) {
	for s, want := range map[string]string{
		"": "", "x": "x", " x": "x", "x ": "x", "\tx": "x", "x\t": "x", "\t x ": "x", " \t \tx y\t \t ": "x y", "x \t y": "x \t y",
		" ": "", "\t": "", " \t \t": "", strings.Repeat(" \t", 2000): "", strings.Repeat(" ", 2000) + "x" + strings.Repeat("\t", 2000): "x",
		"\nx\n": "\nx\n", " \r\n ": "\r\n", "x\r\n": "x\r\n", "\vx\f": "\vx\f", "\x00 x": "\x00 x", " \x00 ": "\x00", "\u00a0x\u00a0": "\u00a0x\u00a0", "\xa0x\x85": "\xa0x\x85", "\u2003": "\u2003", " \xff ": "\xff", "\" \"": "\" \"",
	} {
		if got := impl.TrimText(s); got != want {
			t.Errorf("TrimText(%q) = %q, want %q", s, got, want)
		}
	}
	for b := range 256 {
		one := string([]byte{byte(b)})
		want := one + "x" + one
		if b == ' ' || b == '\t' {
			want = "x"
		}
		if got := impl.TrimText(" \t" + one + "x" + one + "\t "); got != want {
			t.Errorf("TrimText around byte %d gives %q, want %q", b, got, want)
		}
	}
}

func TestQuoteText(t *testing.T) {
	for s, want := range map[string]string{
		"": `""`, "a": `"a"`, `a"b`: `"a\"b"`, `a\b`: `"a\\b"`, `"`: `"\""`, `\`: `"\\"`, `\"`: `"\\\""`, `""`: `"\"\""`, `a, b`: `"a, b"`, " ": `" "`, "'`": "\"'`\"",
		"\x00\xff\n": "\"\x00\xff\n\"", "grün": `"grün"`, `end\`: `"end\\"`,
	} {
		if got := impl.QuoteText(s); got != want {
			t.Errorf("QuoteText(%q) = %q, want %q", s, got, want)
		}
	}
}

func TestQuotedTextsAreReadBack(t *testing.T) {
	check := func(s string) {
		q := impl.QuoteText(s)
		if want := `"` + strings.NewReplacer(`"`, `\"`, `\`, `\\`).Replace(s) + `"`; q != want {
			t.Errorf("QuoteText(%q) = %q, want %q", s, q, want)
		}
		if got, ok := impl.UnquoteText(q); got != s || !ok {
			t.Errorf("UnquoteText(%q) = %q, %v, want %q, true", q, got, ok, s)
		}
	}
	textsOf("a\"\\, \xff", 5, check)
	for b := range 256 {
		check(string([]byte{byte(b)}))
		check(string([]byte{'a', byte(b), byte(b), '\\'}))
	}
	check(strings.Repeat("\"\\x", 3000))
	check(manyBytes())
}

func TestUnquoteText(t *testing.T) {
	for _, x := range []struct {
		s, want string
		ok      bool
	}{
		{`""`, "", true}, {`"a"`, "a", true}, {`"a\"b"`, `a"b`, true}, {`"a\\"`, `a\`, true}, {`"\a\b"`, "ab", true}, {`"a, b"`, "a, b", true}, {`" "`, " ", true}, {`"\""`, `"`, true}, {"\"\x00\xff\n\"", "\x00\xff\n", true}, {"\"\\\xff\"", "\xff", true},
		// Quoted strings that do not end.
		{`"`, "", false}, {`"abc`, "abc", false}, {`"a\"`, `a"`, false}, {`"a\"b`, `a"b`, false}, {`"\"`, `"`, false}, {`"a\\\"`, `a\"`, false}, {`"a, b`, "a, b", false},
		// A backslash at the end.
		{`"\`, `\`, false}, {`"abc\`, `abc\`, false}, {`"abc\\`, `abc\`, false}, {`"abc\\\`, `abc\\`, false}, {`\`, "", false}, {`\\`, `\`, false}, {`ab\`, `b\`, false},
		// A quote within the text, with something behind it.
		{`"a"b`, "a", false}, {`"a""b"`, "a", false}, {`"a" `, "a", false}, {`""a`, "", false}, {`"""`, "", false}, {`""""`, "", false}, {`"a\\"b"`, `a\`, false}, {`"a"\`, "a", false}, {`"a", "b"`, "a", false},
		// Texts that begin with another byte.
		{"", "", false}, {"a", "", false}, {"ab", "b", false}, {`ab"c`, "b", false}, {`ab"`, "b", false}, {`a"`, "", false}, {` "a"`, "", false}, {`x"a"`, "", false}, {`\"a"`, "", false}, {`'a'`, "a'", false}, {`ab\"c"`, `b"c`, false}, {`\ab"`, "ab", false}, {"\xffab\"", "ab", false},
	} {
		if got, ok := impl.UnquoteText(x.s); got != x.want || ok != x.ok {
			t.Errorf("UnquoteText(%q) = %q, %v, want %q, %v", x.s, got, ok, x.want, x.ok)
		}
	}
}

func TestUnquoteTextAgainstPatterns(t *testing.T) {
	textsOf("ab\"\\,", 7, func(s string) {
		want, wantOK := unquotedBy(s)
		if got, ok := impl.UnquoteText(s); got != want || ok != wantOK {
			t.Fatalf("UnquoteText(%q) = %q, %v, want %q, %v", s, got, ok, want, wantOK)
		}
	})
}

func TestSplitList(t *testing.T) {
	for _, x := range []struct {
		s    string
		want []string
	}{
		{"", nil}, {" ", nil}, {",", nil}, {", \t,,", nil}, {"a", []string{"a"}}, {" a\t", []string{"a"}}, {"a,b", []string{"a", "b"}}, {"a, b,c ,\td", []string{"a", "b", "c", "d"}},
		{",a,,b, ,c,", []string{"a", "b", "c"}}, {"a b, c\td", []string{"a b", "c\td"}}, {"a;b=1, c", []string{"a;b=1", "c"}}, {"b,a,b", []string{"b", "a", "b"}},
		{` a , "b, c",, d="e,f" `, []string{"a", `"b, c"`, `d="e,f"`}},
		{`""`, []string{`""`}}, {`"",""`, []string{`""`, `""`}}, {`",",a`, []string{`","`, "a"}}, {`" ", b`, []string{`" "`, "b"}},
		// Quoted strings that begin in the middle, and several in one part.
		{`a"b,c"d,e`, []string{`a"b,c"d`, "e"}}, {`a"b,"",c"d,e`, []string{`a"b,"",c"d`, "e"}}, {`"a""b,c",d`, []string{`"a""b,c"`, "d"}}, {`"a","b",c`, []string{`"a"`, `"b"`, "c"}}, {`W/"a,b", "c"`, []string{`W/"a,b"`, `"c"`}},
		// A backslash within quotes and without.
		{`"a\",b",c`, []string{`"a\",b"`, "c"}}, {`"a\\",b"`, []string{`"a\\"`, `b"`}}, {`a\,b`, []string{`a\`, "b"}}, {`a\"b,c"d`, []string{`a\"b,c"d`}}, {`\"a,b`, []string{`\"a,b`}}, {`"a\,b",c`, []string{`"a\,b"`, "c"}}, {`\`, []string{`\`}},
		// Quoted strings that do not end.
		{`"a,b`, []string{`"a,b`}}, {`a,"b,c , `, []string{"a", `"b,c ,`}}, {`a,b"`, []string{"a", `b"`}}, {`"`, []string{`"`}}, {`a,"`, []string{"a", `"`}}, {`"a\",b`, []string{`"a\",b`}}, {`"a,b\`, []string{`"a,b\`}}, {`"a,b\"`, []string{`"a,b\"`}}, {`"a", "b, c`, []string{`"a"`, `"b, c`}}, {`"\`, []string{`"\`}},
		{"\xff, \x00,ü", []string{"\xff", "\x00", "ü"}}, {"a\r\n, \nb", []string{"a\r\n", "\nb"}}, {"'a,b'", []string{"'a", "b'"}},
	} {
		if got := impl.SplitList(x.s); !slices.Equal(got, x.want) {
			t.Errorf("SplitList(%q) = %q, want %q", x.s, got, x.want)
		}
	}
}

func TestSplitListAgainstPatterns(t *testing.T) {
	check := func(s string) {
		got := impl.SplitList(s)
		if want := splitBy(s); !slices.Equal(got, want) {
			t.Fatalf("SplitList(%q) = %q, want %q", s, got, want)
		}
		// Lists that are joined are divided in the same way.
		if again := impl.SplitList(impl.JoinList(got)); !slices.Equal(again, got) {
			t.Fatalf("SplitList of the joined parts of %q = %q, want %q", s, again, got)
		}
	}
	textsOf("a,\"\\ ", 7, check)
	textsOf("a,\"\t", 6, check)
	check(strings.Repeat("a,", 20000))
	check(strings.Repeat("\"a,\",", 5000) + "\"" + strings.Repeat(",", 5000))
}

// Parts that are tokens, pairs or quoted strings of any bytes come back from the joined list.
func TestListsThatAreJoinedAreDividedInTheSameWay(t *testing.T) {
	l := []string{}
	for _, s := range []string{"a", "max-age=5", "x y", "a\\", "=", "\x00", "\xff"} {
		l = append(l, s)
		if got := impl.SplitList(impl.JoinList(l)); !slices.Equal(got, l) {
			t.Errorf("SplitList of the joined %q = %q", l, got)
		}
	}
	textsOf("a,\"\\ ", 4, func(s string) {
		q := impl.QuoteText(s)
		l := []string{q, "b", "c=" + q, q + q, "W/" + q}
		if got := impl.SplitList(impl.JoinList(l)); !slices.Equal(got, l) {
			t.Fatalf("SplitList of the joined %q = %q", l, got)
		}
	})
}

func TestJoinList(t *testing.T) {
	for _, x := range []struct {
		l    []string
		want string
	}{
		{nil, ""}, {[]string{}, ""}, {[]string{"a"}, "a"}, {[]string{"a", "b"}, "a, b"}, {[]string{"b", "a", "b"}, "b, a, b"},
		{[]string{""}, ""}, {[]string{"", ""}, ", "}, {[]string{"a", ""}, "a, "}, {[]string{"", "a"}, ", a"}, {[]string{" a ", "b,c"}, " a , b,c"}, {[]string{"\"", "\xff"}, "\", \xff"},
	} {
		if got := impl.JoinList(x.l); got != x.want {
			t.Errorf("JoinList(%q) = %q, want %q", x.l, got, x.want)
		}
	}
	l := []string{"a", "b", "c", "d"}
	if got := impl.JoinList(l[:2]); got != "a, b" || !slices.Equal(l, []string{"a", "b", "c", "d"}) {
		t.Errorf("JoinList gives %q and has changed its argument to %q", got, l)
	}
}

func TestSplitListIsNewMemory(t *testing.T) {
	s := "a, b, c"
	first, second := impl.SplitList(s), impl.SplitList(s)
	first[0] = "x"
	_ = append(first[:1], "y")
	if !slices.Equal(second, []string{"a", "b", "c"}) || !slices.Equal(impl.SplitList(s), second) {
		t.Errorf("two results of SplitList share memory: %q", second)
	}
}

func TestSplitPair(t *testing.T) {
	for _, x := range []struct {
		s, name, value string
		ok             bool
	}{
		{"a=b", "a", "b", true}, {" k = v=w ", "k", "v=w", true}, {"a==b", "a", "=b", true}, {"a=b=", "a", "b=", true}, {"a= =b", "a", "=b", true},
		{"=", "", "", true}, {"==", "", "=", true}, {" = ", "", "", true}, {"a=", "a", "", true}, {"=b", "", "b", true}, {"\t a\t=\tb \t", "a", "b", true}, {"a b = c d", "a b", "c d", true},
		{`a="b=c"`, "a", `"b=c"`, true}, {`"a=b"`, `"a`, `b"`, true}, {"A=B", "A", "B", true}, {"a\n=\rb", "a\n", "\rb", true}, {"\xff=\x00", "\xff", "\x00", true},
		{"", "", "", false}, {"a", "a", "", false}, {" a\t", "a", "", false}, {" \t", "", "", false}, {"a:b", "a:b", "", false}, {"a b", "a b", "", false}, {"\n", "\n", "", false},
	} {
		if name, value, ok := impl.SplitPair(x.s); name != x.name || value != x.value || ok != x.ok {
			t.Errorf("SplitPair(%q) = %q, %q, %v, want %q, %q, %v", x.s, name, value, ok, x.name, x.value, x.ok)
		}
	}
}
