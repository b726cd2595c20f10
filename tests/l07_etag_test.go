package tests

import (
	"regexp"
	"slices"
	"strings"
	"testing"

	"loop.example/g03012/impl"
)

// writtenTag is the rule of a tag as a pattern.
var writtenTag = regexp.MustCompile(`\A(W/)?"([!#-~]{0,40})"\z`)

func tagBy(s string) (impl.Tag, bool) {
	m := writtenTag.FindStringSubmatch(s)
	if m == nil {
		return impl.Tag{}, false
	}
	return impl.Tag{Weak: m[1] != "", Text: m[2]}, true
}

func tagListBy(s string) ([]impl.Tag, bool, bool) {
	if strings.Trim(s, "\t ") == "*" {
		return nil, true, true
	}
	l := []impl.Tag{}
	for _, part := range splitBy(s) {
		tag, ok := tagBy(part)
		if !ok {
			return nil, false, false
		}
		l = append(l, tag)
	}
	if len(l) == 0 || len(l) > 8 {
		return nil, false, false
	}
	return l, false, true
}

func strong(text string) impl.Tag {
	return impl.Tag{Text: text}
}

func weak(text string) impl.Tag {
	return impl.Tag{Weak: true, Text: text}
}

func checkTag(t *testing.T, s string) {
	t.Helper()
	want, wantOK := tagBy(s)
	if got, ok := impl.ParseTag(s); got != want || ok != wantOK {
		t.Fatalf("ParseTag(%q) = %+v, %v, want %+v, %v", s, got, ok, want, wantOK)
	}
}

func checkTagList(t *testing.T, s string) {
	t.Helper()
	want, wantAny, wantOK := tagListBy(s)
	if got, any, ok := impl.ParseTagList(s); !slices.Equal(got, want) || any != wantAny || ok != wantOK {
		t.Fatalf("ParseTagList(%q) = %+v, %v, %v, want %+v, %v, %v", s, got, any, ok, want, wantAny, wantOK)
	}
}

func TestMaxTags(t *testing.T) {
	if impl.MaxTags != 8 {
		t.Error(impl.MaxTags)
	}
}

func TestIsTagAndFormatTag(t *testing.T) {
	forty := "abcdefghijklmnopqrstuvwxyz0123456789-ABC"
	for text, want := range map[string]bool{
		"": true, "v1": true, "a,b": true, `a\b`: true, `\`: true, `a\`: true, `\\`: true, ",": true, "!": true, "~": true, "0/en/ann": true, "*": true, "W/": true, "'": true,
		forty[:39]: true, forty: true, forty + "D": false, strings.Repeat("~", 40): true, strings.Repeat("~", 41): false, strings.Repeat("a", 5000): false,
		" ": false, "a b": false, " a": false, "a ": false, "\t": false, "\"": false, "a\"b": false, `a\"`: false, "\x00": false, "a\x1f": false, "\x7f": false, "a\x80": false, "\xff": false, "grün": false, "a\r\n": false,
		forty[:39] + " ": false, forty[:39] + "\"": false, "\"" + forty[:39]: false,
	} {
		for _, tag := range []impl.Tag{strong(text), weak(text)} {
			if got := impl.IsTag(tag); got != want {
				t.Errorf("IsTag(%+v) = %v, want %v", tag, got, want)
			}
			written := ""
			if want {
				written = `"` + text + `"`
			}
			if want && tag.Weak {
				written = "W/" + written
			}
			if got := impl.FormatTag(tag); got != written {
				t.Errorf("FormatTag(%+v) = %q, want %q", tag, got, written)
			}
		}
	}
}

// Each byte, in each place of a text.
func TestTagsAtEveryByte(t *testing.T) {
	for b := range 256 {
		one := string([]byte{byte(b)})
		want := b >= 33 && b <= 126 && b != '"'
		for _, text := range []string{one, one + "a", "a" + one, "a" + one + "a", strings.Repeat(one, 40), strings.Repeat("a", 39) + one, one + strings.Repeat("a", 39)} {
			for _, tag := range []impl.Tag{strong(text), weak(text)} {
				if got := impl.IsTag(tag); got != want {
					t.Errorf("IsTag(%+v) = %v, want %v", tag, got, want)
				}
				if got := impl.FormatTag(tag); (got != "") != want {
					t.Errorf("FormatTag(%+v) = %q", tag, got)
				}
			}
		}
		if impl.IsTag(strong(strings.Repeat(one, 41))) || impl.IsTag(weak(strings.Repeat("a", 40)+one)) {
			t.Errorf("IsTag of 41 bytes with byte %d is true", b)
		}
	}
}

func TestParseTag(t *testing.T) {
	forty := strings.Repeat("t", 40)
	for s, want := range map[string]impl.Tag{
		`""`: strong(""), `W/""`: weak(""), `"v1"`: strong("v1"), `W/"v1"`: weak("v1"), `"W/"`: strong("W/"), `W/"W/"`: weak("W/"), `"a,b"`: strong("a,b"), `"a\b"`: strong(`a\b`), `"a\"`: strong(`a\`), `"\\"`: strong(`\\`), `W/"\"`: weak(`\`),
		`"*"`: strong("*"), `"!"`: strong("!"), `"~"`: strong("~"), `"` + forty + `"`: strong(forty), `W/"` + forty + `"`: weak(forty), `"w/"`: strong("w/"), `"0/en/"`: strong("0/en/"),
	} {
		if got, ok := impl.ParseTag(s); got != want || !ok {
			t.Errorf("ParseTag(%q) = %+v, %v, want %+v, true", s, got, ok, want)
		}
	}
	for _, s := range []string{
		"", " ", "v1", "*", "W", "W/", "/", `"`, `W/"`, `"v1`, `v1"`, `W/"v1`, `W/v1"`, `W/v1`, `"""`, `""""`, `"a"b"`, `"a\"b"`,
		`w/"v1"`, `W"v1"`, `/"v1"`, `W/ "v1"`, `W /"v1"`, `W/W/"v1"`, `WW/"v1"`, `"v1"W/`,
		` "v1"`, `"v1" `, `"v1"x`, `x"v1"`, `"v1""`, `"v1","v2"`, `"v1",`, `"a b"`, "\"a\tb\"", "\"a\x00\"", "\"\x7f\"", "\"grün\"", "\"\xff\"", "\"v1\"\r\n", "'v1'",
		`"` + forty + `t"`, `W/"` + forty + `t"`, `"` + strings.Repeat("t", 5000) + `"`, forty, `"` + forty, strings.Repeat(`"`, 42), "\u201cv1\u201d",
	} {
		if got, ok := impl.ParseTag(s); got != (impl.Tag{}) || ok {
			t.Errorf("ParseTag(%q) = %+v, %v, want none", s, got, ok)
		}
	}
}

func TestParseTagAgainstAPattern(t *testing.T) {
	textsOf("W/\"a, \\", 6, func(s string) { checkTag(t, s) })
	textsOf("W/w\"*", 6, func(s string) { checkTag(t, s) })
	for _, s := range []string{`"v1"`, `W/"v1"`, `""`, `W/""`} {
		variantsOf(s, func(s string) { checkTag(t, s) })
	}
	for n := 35; n < 45; n++ {
		checkTag(t, `"`+strings.Repeat("a", n)+`"`)
		checkTag(t, `W/"`+strings.Repeat("a", n)+`"`)
	}
}

func TestTagsAreReadBack(t *testing.T) {
	check := func(tag impl.Tag) {
		t.Helper()
		s := impl.FormatTag(tag)
		want := tag
		if !impl.IsTag(tag) {
			want = impl.Tag{}
		}
		if got, ok := impl.ParseTag(s); got != want || ok != impl.IsTag(tag) {
			t.Fatalf("ParseTag(%q) = %+v, %v, want %+v", s, got, ok, tag)
		}
	}
	textsOf("W/\"a, \\*", 5, func(s string) {
		check(strong(s))
		check(weak(s))
		if tag, ok := impl.ParseTag(s); ok && impl.FormatTag(tag) != s {
			t.Fatalf("FormatTag(%+v) = %q, want %q", tag, impl.FormatTag(tag), s)
		}
	})
	for b := range 256 {
		check(strong(string([]byte{byte(b)})))
		check(weak(string([]byte{'a', byte(b)})))
	}
	for n := range 50 {
		check(strong(strings.Repeat("x", n)))
		check(weak(strings.Repeat("\\", n)))
	}
}

func TestParseTagList(t *testing.T) {
	eight := `"1","2","3","4","5","6","7",W/"8"`
	for s, want := range map[string][]impl.Tag{
		`"a"`: {strong("a")}, ` W/"a"	`: {weak("a")}, `"a,b", W/"c"`: {strong("a,b"), weak("c")}, `"a","a", W/"a"`: {strong("a"), strong("a"), weak("a")}, `""`: {strong("")}, `"", W/""`: {strong(""), weak("")},
		`, "a",, ,	"b" ,`: {strong("a"), strong("b")}, `"b","a"`: {strong("b"), strong("a")}, `","`: {strong(",")}, `",", ",,"`: {strong(","), strong(",,")}, `"*"`: {strong("*")}, `"a\b", "c"`: {strong(`a\b`), strong("c")}, `"a\\","b"`: {strong(`a\\`), strong("b")}, `"b", "a\"`: {strong("b"), strong(`a\`)}, `"a\,b"`: {strong(`a\,b`)},
		eight:                               {strong("1"), strong("2"), strong("3"), strong("4"), strong("5"), strong("6"), strong("7"), weak("8")},
		",," + eight + ", ,":                {strong("1"), strong("2"), strong("3"), strong("4"), strong("5"), strong("6"), strong("7"), weak("8")},
		`"` + strings.Repeat("t", 40) + `"`: {strong(strings.Repeat("t", 40))},
	} {
		if got, any, ok := impl.ParseTagList(s); !slices.Equal(got, want) || any || !ok {
			t.Errorf("ParseTagList(%q) = %+v, %v, %v, want %+v, false, true", s, got, any, ok, want)
		}
	}
	for _, s := range []string{"*", " *", "*\t", " \t * \t"} {
		if got, any, ok := impl.ParseTagList(s); len(got) != 0 || !any || !ok {
			t.Errorf("ParseTagList(%q) = %+v, %v, %v, want none, true, true", s, got, any, ok)
		}
	}
	for _, s := range []string{
		// None.
		"", " ", ",", " , ,\t",
		// More than MaxTags, also if one of the later ones is no tag.
		eight + `,"9"`, `"0",` + eight, eight + "," + eight, eight + ",bad", strings.Repeat(`"a",`, 5000),
		// A star that does not stand alone.
		"**", "* *", "*,", ",*", "*,*", `*, "a"`, `"a", *`, "*\n", "W/*",
		// Elements that are no tags.
		"bad", `"a", bad`, `bad, "a"`, `"a", w/"b"`, `"a" "b"`, `"a"; "b"`, `"a", "b`, `"a`, `"a", "b"x`, `W/"a",W/`, `"a b"`, `"a", "` + strings.Repeat("t", 41) + `"`,
		// A backslash before the last quote takes it into the element.
		`"a\", "b"`, `W/"\", "b"`,
	} {
		if got, any, ok := impl.ParseTagList(s); len(got) != 0 || any || ok {
			t.Errorf("ParseTagList(%q) = %+v, %v, %v, want none, false, false", s, got, any, ok)
		}
	}
}

func TestParseTagListAgainstAPattern(t *testing.T) {
	textsOf("W/\"a, *", 6, func(s string) { checkTagList(t, s) })
	textsOf("\"a,\\", 7, func(s string) { checkTagList(t, s) })
	for n := range 20 {
		checkTagList(t, strings.Repeat(`W/"a,b", `, n))
		checkTagList(t, strings.Repeat(`"",`, n)+"*")
		checkTagList(t, strings.Repeat(`,`, n)+`"x"`)
	}
	variantsOf(` "a,b" ,W/"c", "d\e"`, func(s string) { checkTagList(t, s) })
}

// Tags that are written into a list come back, but for those with a backslash at the end, which hides the last quote from a list.
func TestTagListsAreReadBack(t *testing.T) {
	l, texts := []impl.Tag{}, []string{}
	for _, tag := range []impl.Tag{strong("a"), weak("a"), strong("a,b"), strong(""), weak(`\a`), strong("W/"), weak("*"), strong(strings.Repeat(",", 40))} {
		l, texts = append(l, tag), append(texts, impl.FormatTag(tag))
		if got, any, ok := impl.ParseTagList(impl.JoinList(texts)); !slices.Equal(got, l) || any || !ok {
			t.Errorf("ParseTagList(%q) = %+v, %v, %v, want %+v, false, true", impl.JoinList(texts), got, any, ok, l)
		}
	}
}

func TestSameTags(t *testing.T) {
	texts := []string{"", "a", "A", "b", "a,b", "ab", " ", "\"", "a\x00", "W/", strings.Repeat("a", 50)}
	for _, x := range texts {
		for _, y := range texts {
			for _, a := range []impl.Tag{strong(x), weak(x)} {
				for _, b := range []impl.Tag{strong(y), weak(y)} {
					if got, want := impl.StrongSame(a, b), x == y && !a.Weak && !b.Weak; got != want {
						t.Errorf("StrongSame(%+v, %+v) = %v, want %v", a, b, got, want)
					}
					if got, want := impl.WeakSame(a, b), x == y; got != want {
						t.Errorf("WeakSame(%+v, %+v) = %v, want %v", a, b, got, want)
					}
				}
			}
		}
	}
}

func TestTagListsShareNoMemory(t *testing.T) {
	checkNewMemory(t, "ParseTagList", []int{}, 1, func([]int) []impl.Tag {
		l, _, _ := impl.ParseTagList(`"a", W/"b", "c"`)
		return l
	})
}
