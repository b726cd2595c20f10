package tests

import (
	"math"
	"regexp"
	"slices"
	"strings"
	"testing"

	"loop.example/g03012/impl"
)

func textPart(s string) impl.Part {
	return impl.Part{Kind: impl.PartText, Text: s}
}

func pagePart(target string) impl.Part {
	return impl.Part{Kind: impl.PartPage, Text: target}
}

// someParts has so many parts, by turns a text and a page.
func someParts(n int) []impl.Part {
	l := []impl.Part{}
	for i := range n {
		l = append(l, []impl.Part{textPart("t"), pagePart("/p")}[i%2])
	}
	return l
}

func arePagePartsBy(l []impl.Part) bool {
	kinds := ""
	for _, p := range l {
		normal, ok := normalBy(p.Text)
		switch {
		case p.Kind == 1 && p.Text != "" && !strings.Contains(p.Text, "<%"):
			kinds += "t"
		case p.Kind == 2 && ok && normal == p.Text && len(p.Text) <= 60 && !strings.Contains(p.Text, "%>"):
			kinds += "p"
		default:
			return false
		}
	}
	return len(l) <= 12 && !strings.Contains(kinds, "tt")
}

// pageTag is the form of a tag; what does not end has not this form.
var pageTag = regexp.MustCompile(`(?s)<%(.*?)%>`)

// pagePartsBy takes the remarks out of the tags that a pattern finds.
func pagePartsBy(s string) ([]impl.Part, bool) {
	l, text, behind := []impl.Part{}, "", 0
	for _, m := range pageTag.FindAllStringSubmatchIndex(s, -1) {
		text += s[behind:m[0]]
		behind = m[1]
		tag := s[m[2]:m[3]]
		if strings.HasPrefix(tag, "#") {
			continue
		}
		if len(tag) < 9 || tag[:8] != "include " {
			return nil, false
		}
		l, text = append(l, textPart(text), pagePart(tag[8:])), ""
	}
	// What is behind the last tag has none, or one that does not end.
	if strings.Contains(s[behind:], "<%") {
		return nil, false
	}
	l = append(l, textPart(text+s[behind:]))
	l = slices.DeleteFunc(l, func(p impl.Part) bool { return p.Text == "" })
	if !arePagePartsBy(l) {
		return nil, false
	}
	return l, true
}

func checkTemplate(t *testing.T, s string) {
	t.Helper()
	want, wantOK := pagePartsBy(s)
	got, ok := impl.ParsePage(s)
	if !slices.Equal(got, want) || ok != wantOK {
		t.Fatalf("ParsePage(%q) = %+v, %v, want %+v, %v", s, got, ok, want, wantOK)
	}
	targets := []string{}
	for _, p := range want {
		if p.Kind == impl.PartPage {
			targets = append(targets, p.Text)
		}
	}
	if l := impl.IncludesOf(s); !slices.Equal(l, targets) {
		t.Fatalf("IncludesOf(%q) = %q, want %q", s, l, targets)
	}
	if !ok {
		return
	}
	// Written again it has no remarks, but is the same otherwise.
	written := impl.FormatPage(got)
	if !impl.ArePageParts(got) || written != regexp.MustCompile(`(?s)<%#.*?%>`).ReplaceAllString(s, "") {
		t.Fatalf("%q gives %+v, which is written as %q", s, got, written)
	}
}

func TestLimitsOfPages(t *testing.T) {
	if impl.MaxParts != 12 || impl.PartText != 1 || impl.PartPage != 2 {
		t.Error(impl.MaxParts, impl.PartText, impl.PartPage)
	}
}

func TestArePageParts(t *testing.T) {
	check := func(want bool, l ...impl.Part) {
		t.Helper()
		if got := impl.ArePageParts(l); got != want || arePagePartsBy(l) != want {
			t.Errorf("ArePageParts(%+v) = %v, want %v", l, got, want)
		}
	}
	for n := range 16 {
		check(n <= 12, someParts(n)...)
		check(n <= 12, slices.Repeat([]impl.Part{pagePart("/p")}, n)...)
		check(n <= 1, slices.Repeat([]impl.Part{textPart("t")}, n)...)
		// Each part alone may make the list a bad one.
		for i := range min(n, 12) {
			l := someParts(n)
			l[i].Kind = 3
			check(false, l...)
			l = someParts(n)
			l[i].Text = ""
			check(false, l...)
		}
	}
	for _, kind := range []int{math.MinInt, -1, 0, 3, 4, math.MaxInt} {
		check(false, impl.Part{Kind: kind, Text: "/p"})
		check(false, impl.Part{Kind: kind})
	}
	for s, want := range map[string]bool{
		"": false, "a": true, "<": true, "%": true, ">": true, "%>": true, "a%>b%>": true, "<<": true, "< %": true, "%<": true, "include /p": true, "\xff\x80<\xff%": true, "\x00": true, "ä": true, strings.Repeat("t", 9999): true,
		"<%": false, "a<%": false, "<%b": false, "<%include /p%>": false, "<<%": false, "<%%>": false, "\xff<%\xff": false, "<%#": false, strings.Repeat("t", 9999) + "<%": false,
	} {
		check(want, textPart(s))
		check(want, pagePart("/p"), textPart(s), pagePart("/q"))
		check(false, textPart(s), textPart("t"))
		check(false, pagePart("/p"), textPart("t"), textPart(s))
	}
	for target, want := range map[string]bool{
		"/": true, "/p": true, "/a/b?x&y": true, "/%2F": true, "/<": true, "/>": true, "/<a>": true, "/a b": true, "/\xff": true, "//": true, "/" + strings.Repeat("p", 59): true, "/%2F" + strings.Repeat("p", 56): true,
		"": false, "p": false, "p/": false, " /p": false, "/./p": false, "/a/..": false, "/%2f": false, "/%61": false, "/%": false, "/%>": false, "/a%>b": false, "/a?%>": false, "/p?": false, "/?y&x": false, "/p%4": false, "/" + strings.Repeat("p", 60): false, "/%2F" + strings.Repeat("p", 57): false, strings.Repeat("p", 60): false,
	} {
		check(want, pagePart(target))
		check(want, textPart("t"), pagePart(target), pagePart("/p"), textPart("t"))
	}
	check(true)
}

func TestFormatPage(t *testing.T) {
	for _, x := range []struct {
		want string
		l    []impl.Part
	}{
		{"", nil}, {"a", []impl.Part{textPart("a")}}, {"<%include /p%>", []impl.Part{pagePart("/p")}}, {"a<%include /p%><%include /q?x%>b<", []impl.Part{textPart("a"), pagePart("/p"), pagePart("/q?x"), textPart("b<")}},
		// Parts that are not valid, as they are.
		{"ab<%", []impl.Part{textPart("a"), textPart("b"), textPart(""), textPart("<%")}}, {"<%include %><%include a%>%>", []impl.Part{pagePart(""), pagePart("a%>")}}, {"/x/y/z", []impl.Part{{Kind: 0, Text: "/x"}, {Kind: 3, Text: "/y"}, {Kind: -2, Text: "/z"}}}, {strings.Repeat("t<%include /p%>", 9), someParts(18)}, {"\xff<%include \x00%>", []impl.Part{textPart("\xff"), pagePart("\x00")}},
	} {
		if got := impl.FormatPage(x.l); got != x.want {
			t.Errorf("FormatPage(%+v) = %q, want %q", x.l, got, x.want)
		}
	}
}

func TestParsePage(t *testing.T) {
	long := "/" + strings.Repeat("p", 59)
	for s, want := range map[string][]impl.Part{
		"": {}, "a": {textPart("a")}, "<%include /p%>": {pagePart("/p")}, "a<%include /p%>b": {textPart("a"), pagePart("/p"), textPart("b")}, "<%include /p%><%include /p%>": {pagePart("/p"), pagePart("/p")}, "<%include /p?x&y%>": {pagePart("/p?x&y")}, "<%include " + long + "%>": {pagePart(long)},
		// Remarks at both ends, one behind the other, between texts and between pages.
		"<%#%>": {}, "<%# a remark %>": {}, "<%#a%><%#b%><%##%>": {}, "<%#r%>a": {textPart("a")}, "a<%#r%>": {textPart("a")}, "a<%#r%>b": {textPart("ab")}, "<%#r%>a<%#r%><%#r%>b<%#r%>c<%#r%>": {textPart("abc")}, "a<%#r%><%include /p%><%#r%>b": {textPart("a"), pagePart("/p"), textPart("b")}, "<%#r%><%include /p%><%#r%><%include /q%><%#r%>": {pagePart("/p"), pagePart("/q")}, "<%# <% <%include /p%>": {}, "<%#<%include /p%>%>": {textPart("%>")}, "<%#\xff\x00\n\"%>": {},
		// Marks that are no tags.
		"<": {textPart("<")}, "%": {textPart("%")}, ">": {textPart(">")}, "%>": {textPart("%>")}, "%><": {textPart("%><")}, "< %": {textPart("< %")}, "a%>b": {textPart("a%>b")}, "<<%include /p%>>": {textPart("<"), pagePart("/p"), textPart(">")}, "<<%#r%>>": {textPart("<>")}, "%<%include /p%>%": {textPart("%"), pagePart("/p"), textPart("%")}, "<%include /p%>%>": {pagePart("/p"), textPart("%>")}, "<a%b>": {textPart("<a%b>")},
		// Bytes that are no UTF-8, and runes of several bytes.
		"\xff<%include /p%>\x80": {textPart("\xff"), pagePart("/p"), textPart("\x80")}, "\xe4<%#\xe4%>\xc3": {textPart("\xe4\xc3")}, "ä<%include /ä%>€": {textPart("ä"), pagePart("/ä"), textPart("€")}, "<\xff%": {textPart("<\xff%")}, "<%include /\xff%>": {pagePart("/\xff")}, "\xef\xbf\xbd%>\xef\xbf\xbd": {textPart("\ufffd%>\ufffd")}, "\xf0<%#%>\x9f": {textPart("\xf0\x9f")},
		"<%include /<%>": {pagePart("/<")}, "<%include />%>": {pagePart("/>")}, "<%include /a b%>": {pagePart("/a b")},
		"a\r\n<%include /p%>\r\n": {textPart("a\r\n"), pagePart("/p"), textPart("\r\n")},
	} {
		if got, ok := impl.ParsePage(s); !ok || !slices.Equal(got, want) {
			t.Errorf("ParsePage(%q) = %+v, %v, want %+v", s, got, ok, want)
		}
		checkTemplate(t, s)
	}
	for _, s := range []string{
		// Tags that do not end.
		"<%", "a<%", "<%%", "<%>", "<%#", "<%#%", "<%# r", "<%include /p", "<%include /p%", "<%include /p>", "<%include /p% >", "<%include /p%><%", "<%#r%><%#r", "<%<%#", "<%include /p\xff", "<%\xff>", "<%#\xff>",
		// Tags of neither kind.
		"<%%>", "<%x%>", "<% %>", "<% #r%>", "<%include%>", "<%include\t/p%>", "<%includes /p%>", "<%Include /p%>", "<% include /p%>", "<%/p%>", "<%%%>", "<%x%><%include /p%>", "<%include /p%><%x%>", "<%>%>", "<%<%#r%>",
		// With nothing behind it, with a target that is not normal, or too long.
		"<%include %>", "<%include  %>", "<%include  /p%>", "<%include /p%%>", "<%include a%>", "<%include /./p%>", "<%include /a/..%>", "<%include /%2f%>", "<%include /%61%>", "<%include /p?%>", "<%include /?y&x%>", "<%include //../p%>", "<%include /%%>", "<%include p%>", "<%include http://h/p%>", "<%include " + long + "p%>", "<%include /p#%>x<%include q%>",
		// A remark between both marks of a tag leaves a text that has one.
		"<<%#r%>%", "<<%#r%>%include /p%>", "a<<%#r%><%#r%>%b",
	} {
		if l, ok := impl.ParsePage(s); ok || len(l) != 0 {
			t.Errorf("ParsePage(%q) = %+v, %v", s, l, ok)
		}
		if l := impl.IncludesOf(s); len(l) != 0 {
			t.Errorf("IncludesOf(%q) = %q", s, l)
		}
		checkTemplate(t, s)
	}
}

func TestPagesOfManyParts(t *testing.T) {
	for n := range 16 {
		for s, parts := range map[string]int{
			strings.Repeat("<%include /p%>", n): n, strings.Repeat("t<%include /p%>", n): 2 * n, strings.Repeat("t<%include /p%>", n) + "t": 2*n + 1, strings.Repeat("<%#r%>t", n): min(n, 1), strings.Repeat("<%#r%><%include /p%>", n): n, strings.Repeat("<%#r%>", 100*n): 0, strings.Repeat("t", 500*n): min(n, 1),
		} {
			if l, ok := impl.ParsePage(s); ok != (parts <= 12) || ok && len(l) != parts {
				t.Errorf("ParsePage(%q) = %+v, %v, and there are %d parts", s, l, ok, parts)
			}
			checkTemplate(t, s)
		}
		if got := impl.FormatPage(someParts(n)); got != strings.Repeat("t<%include /p%>", n/2)+strings.Repeat("t", n%2) {
			t.Errorf("%d parts are written as %q", n, got)
		}
	}
}

func TestIncludesOf(t *testing.T) {
	for s, want := range map[string][]string{
		"": {}, "a": {}, "<%#<%include /p%>": {}, "<%include /p%>": {"/p"}, "a<%include /q%>b<%include /p%>c<%include /q%>": {"/q", "/p", "/q"}, "<%include /q%><%include /./p%>": {}, "<%include /q%><%": {}, strings.Repeat("<%include /p%>", 12): slices.Repeat([]string{"/p"}, 12), strings.Repeat("<%include /p%>", 13): {},
	} {
		if got := impl.IncludesOf(s); !slices.Equal(got, want) {
			t.Errorf("IncludesOf(%q) = %q, want %q", s, got, want)
		}
	}
}

// rows gives each list of so many of the texts.
func rows(texts []string, length int, f func(string)) {
	if length == 0 {
		f("")
		return
	}
	rows(texts, length-1, func(s string) {
		for _, x := range texts {
			f(s + x)
		}
	})
}

func TestParsePageAgainstAPattern(t *testing.T) {
	textsOf("<%>#/", 6, func(s string) {
		checkTemplate(t, s)
		checkTemplate(t, "<%include "+s)
		checkTemplate(t, "<%#"+s)
	})
	for length := range 5 {
		rows([]string{"<%", "%>", "<%include ", "<%#", "include ", "/", "/p", "#", "<", "%", ">", "\xff", "a "}, length, func(s string) { checkTemplate(t, s) })
	}
	rows([]string{"<%include /p%>", "<%include /q", "<%#r%>", "<%#", "t", "<", "%>", "%"}, 5, func(s string) { checkTemplate(t, s) })
	for _, s := range []string{"a<%include /p%>b<%# r%>c", "<%include /a?x%><%include /b%>"} {
		variantsOf(s, func(s string) { checkTemplate(t, s) })
	}
}

// partLists gives each list of so many of some parts, good and bad.
func partLists(length int, f func([]impl.Part)) {
	if length == 0 {
		f(nil)
		return
	}
	some := []impl.Part{textPart("a"), textPart("<"), textPart("%>"), textPart("\xff%"), textPart(">"), pagePart("/p"), pagePart("/<?%3E"), textPart(""), textPart("<%"), pagePart("p"), {Kind: 3, Text: "a"}}
	partLists(length-1, func(l []impl.Part) {
		for _, p := range some {
			f(append(slices.Clone(l), p))
		}
	})
}

// Pages that are written are read back.
func TestPagesAreReadBack(t *testing.T) {
	for length := range 5 {
		partLists(length, func(l []impl.Part) {
			s := impl.FormatPage(l)
			got, ok := impl.ParsePage(s)
			if valid := impl.ArePageParts(l); valid != arePagePartsBy(l) || valid && (!ok || !slices.Equal(got, l)) {
				t.Fatalf("%+v, valid: %v, is written as %q and read back as %+v, %v", l, valid, s, got, ok)
			}
			if ok && impl.FormatPage(got) != s {
				t.Fatalf("%q is read as %+v and written as %q", s, got, impl.FormatPage(got))
			}
		})
	}
	for n := range 13 {
		l := someParts(n)
		if got, ok := impl.ParsePage(impl.FormatPage(l)); !ok || !slices.Equal(got, l) {
			t.Errorf("%d parts are read back as %+v, %v", n, got, ok)
		}
	}
}

func TestPagesShareNoMemory(t *testing.T) {
	for _, l := range [][]impl.Part{nil, someParts(5), someParts(12), someParts(13), {textPart("")}} {
		checkApart(t, "the functions of pages", l, func(l []impl.Part) []any {
			s := impl.FormatPage(l)
			parts, ok := impl.ParsePage(s)
			return []any{impl.ArePageParts(l), s, parts, ok, impl.IncludesOf(s)}
		})
	}
}
