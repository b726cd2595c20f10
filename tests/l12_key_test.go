package tests

import (
	"encoding/hex"
	"regexp"
	"slices"
	"strings"
	"testing"

	"loop.example/g03012/impl"
)

var writtenCode = regexp.MustCompile(`%[0-9A-Fa-f]{2}`)

const plainBytes = "abcdefghijklmnopqrstuvwxyzABCDEFGHIJKLMNOPQRSTUVWXYZ0123456789-._~"

func codesBy(s string) (string, bool) {
	if strings.Contains(writtenCode.ReplaceAllString(s, ""), "%") {
		return "", false
	}
	return writtenCode.ReplaceAllStringFunc(s, func(code string) string {
		b, _ := hex.DecodeString(code[1:])
		if strings.Contains(plainBytes, string(b)) {
			return string(b)
		}
		return strings.ToUpper(code)
	}), true
}

// dropDotsBy takes a path away from its beginning and builds another one, as the rule for addresses of the web describes it.
func dropDotsBy(path string) string {
	out := ""
	for path != "" {
		switch {
		case strings.HasPrefix(path, "/./"):
			path = path[2:]
		case path == "/.":
			path = "/"
		case strings.HasPrefix(path, "/../"):
			path, out = path[3:], out[:max(0, strings.LastIndex(out, "/"))]
		case path == "/..":
			path, out = "/", out[:max(0, strings.LastIndex(out, "/"))]
		default:
			end := strings.Index(path[1:], "/") + 1
			if end == 0 {
				end = len(path)
			}
			path, out = path[end:], out+path[:end]
		}
	}
	return out
}

func normalBy(s string) (string, bool) {
	s, ok := codesBy(s)
	if !ok || !strings.HasPrefix(s, "/") {
		return "", false
	}
	path, query, _ := strings.Cut(s, "?")
	parts := strings.FieldsFunc(query, func(r rune) bool { return r == '&' })
	slices.Sort(parts)
	if len(parts) == 0 {
		return dropDotsBy(path), true
	}
	return dropDotsBy(path) + "?" + strings.Join(parts, "&"), true
}

func checkTarget(t *testing.T, s string) {
	t.Helper()
	want, wantOK := normalBy(s)
	got, ok := impl.NormalTarget(s)
	if got != want || ok != wantOK {
		t.Fatalf("NormalTarget(%q) = %q, %v, want %q, %v", s, got, ok, want, wantOK)
	}
	if normal := impl.IsNormalTarget(s); normal != (wantOK && want == s) {
		t.Fatalf("IsNormalTarget(%q) = %v", s, normal)
	}
	if again, ok := impl.NormalTarget(got); wantOK && (again != got || !ok || !impl.IsNormalTarget(got)) {
		t.Fatalf("NormalTarget(%q) = %q, but that of this = %q, %v", s, got, again, ok)
	}
}

func TestSplitTarget(t *testing.T) {
	for _, x := range []struct {
		s, path, query string
		has            bool
	}{
		{"/a?b", "/a", "b", true}, {"/a?b?c", "/a", "b?c", true}, {"/a??", "/a", "?", true}, {"/a?", "/a", "", true}, {"?", "", "", true}, {"?b", "", "b", true}, {"??", "", "?", true}, {"/a?x=1&y=/2", "/a", "x=1&y=/2", true}, {"/%3f?%3F", "/%3f", "%3F", true}, {"a%?%", "a%", "%", true}, {" ? ", " ", " ", true}, {"\xff?\x00", "\xff", "\x00", true},
		{"", "", "", false}, {"/", "/", "", false}, {"/a&b", "/a&b", "", false}, {"/a%3Fb", "/a%3Fb", "", false}, {"\x00", "\x00", "", false}, {"/a#b", "/a#b", "", false},
	} {
		if path, query, has := impl.SplitTarget(x.s); path != x.path || query != x.query || has != x.has {
			t.Errorf("SplitTarget(%q) = %q, %q, %v, want %q, %q, %v", x.s, path, query, has, x.path, x.query, x.has)
		}
	}
}

func TestNormalTarget(t *testing.T) {
	for s, want := range map[string]string{
		"/": "/", "/a": "/a", "/a/b": "/a/b", "/a/": "/a/", "/a/./b/../c?y=2&x=1": "/a/c?x=1&y=2", "/%7eb/%2f": "/~b/%2F",
		// Dots at the beginning, in the middle and at the end.
		"/.": "/", "/./": "/", "/./a": "/a", "/a/.": "/a/", "/a/./": "/a/", "/a/./b": "/a/b", "/././.": "/", "/a/./.": "/a/",
		"/..": "/", "/../": "/", "/../a": "/a", "/a/..": "/", "/a/../": "/", "/a/../b": "/b", "/a/b/..": "/a/", "/a/b/../": "/a/", "/a/b/../c": "/a/c", "/a/b/../..": "/", "/a/b/../../c": "/c", "/a/b/./../c/.": "/a/c/", "/a/../b/../c/..": "/", "/a/b/c/../..": "/a/", "/a/./..": "/", "/a/../.": "/", "/./..": "/", "/../.": "/",
		// More of them than components.
		"/../..": "/", "/../../a": "/a", "/a/../..": "/", "/a/../../b": "/b", "/a/../../..": "/", "/a/../../../b/": "/b/", "/../../../": "/",
		// Components that are no dots.
		"/...": "/...", "/.a": "/.a", "/a.": "/a.", "/..a": "/..a", "/a..": "/a..", "/a/.../b": "/a/.../b", "/. ": "/. ", "/.;": "/.;", "/.../..": "/", "/.%20/..": "/",
		// Empty components, which two dots take away like others.
		"//": "//", "//a": "//a", "/a//b": "/a//b", "/a//": "/a//", "/a//..": "/a/", "/a//../b": "/a/b", "/a//../../b": "/b", "//..": "/", "//../a": "/a", "//../..": "/", "/..//a": "//a", "///..": "//", "/.//a": "//a", "/a/.//b": "/a//b", "/a/..//b": "//b", "/a//./b": "/a//b",
		// Bytes that are replaced, and bytes that are not.
		"/%61%5A%39": "/aZ9", "/%2d%2E%5f%7E": "/-._~", "/%2D%5F": "/-_", "/%2f%3f%25%26": "/%2F%3F%25%26", "/%2a%2B%3a%3D": "/%2A%2B%3A%3D", "/%c3%BC": "/%C3%BC", "/%00%ff%20%7f": "/%00%FF%20%7F", "/%40%5b%60%7b%2c%3A": "/%40%5B%60%7B%2C%3A", "/%30%41%61": "/0Aa", "/%AB%ab%aB%Ab": "/%AB%AB%AB%AB",
		// What a code means is not read again.
		"/%2561": "/%2561", "/%25%36%31": "/%2561", "/%252e%252E": "/%252e%252E", "/%256": "/%256",
		// Replaced bytes that make dots.
		"/%2e": "/", "/%2E%2e": "/", "/a/%2e/b": "/a/b", "/a/%2e%2E/b": "/b", "/a/.%2e": "/", "/a/%2E.": "/", "/a/b/%2E": "/a/b/", "/%2e%2e%2e": "/...", "/%2ea": "/.a", "/a%2fb/..": "/", "/a/%2f..": "/a/%2F..", "/a/..%2fb": "/a/..%2Fb", "/a/.%2f": "/a/.%2F",
		// Queries.
		"/?": "/", "/a?": "/a", "/a?&": "/a", "/a?&&&": "/a", "/a?b": "/a?b", "/a?&b": "/a?b", "/a?b&": "/a?b", "/a?&&b&&c&": "/a?b&c", "/a?c&b&a": "/a?a&b&c", "/a?b&a&b&a": "/a?a&a&b&b", "/?b=2&a=9&b=1&B": "/?B&a=9&b=1&b=2", "/?a&aa&a=&A": "/?A&a&a=&aa", "/?10&9&1": "/?1&10&9", "/a??": "/a??", "/a?b?c&a?": "/a?a?&b?c", "/a?=": "/a?=", "/a?=&b": "/a?=&b",
		"/?\xff&z&\x01": "/?\x01&z&\xff", "/? &!": "/? &!", "/?a b&a": "/?a&a b",
		// In a query, codes are replaced before the parts are put in order, and nothing else is.
		"/?b&%61": "/?a&b", "/?%7e&z&%7a": "/?z&z&~", "/?%26&a%3db": "/?%26&a%3Db", "/?a&%62=%2f": "/?a&b=%2F", "/?%c3&%C2": "/?%C2&%C3", "/?z&%2b&+": "/?%2B&+&z", "/?./a/../b": "/?./a/../b", "/a?/..": "/a?/..", "/a?..&.": "/a?.&..", "/a/..?b": "/?b", "/a/.?": "/a/", "/..?%2e%2e": "/?..", "/?//": "/?//",
		// Any other bytes.
		"/a b": "/a b", "/ü": "/ü", "/\xff\x00": "/\xff\x00", "/a#b/../c": "/c",
	} {
		if got, ok := impl.NormalTarget(s); got != want || !ok {
			t.Errorf("NormalTarget(%q) = %q, %v, want %q, true", s, got, ok, want)
		}
		if got := impl.IsNormalTarget(s); got != (s == want) {
			t.Errorf("IsNormalTarget(%q) = %v", s, got)
		}
	}
	for _, s := range []string{
		// A path that does not begin with a slash.
		"", "a", "a/b", "?", "?/", "?a", "./a", "../a", ".", "..", " /a", "%2fa", "%2Fa", "&", "http://h/", "*", "\x00/",
		// A % without two digits.
		"/%", "/%4", "/a%", "/a%4", "/%zz", "/%4z", "/%z4", "/%%", "/%%41", "/%4%41", "/%41%", "/%41%4", "/% 4", "/%4 ", "/%+4", "/%-1", "/%0x", "/%_4", "/%4_", "/%g0", "/%0G", "/%@1", "/%`1", "/%/41", "/%:1", "/%4/1", "/%4?1", "/%?41", "/%\xff1", "/a/%", "/%/..", "/a/%zz/..", "/%4/..",
		"/?%", "/?%4", "/a?b%", "/a?%1", "/?%zz", "/?a&%", "/?%&41", "/?%4&1", "/?%%41", "/a%?%41", "/%41?%", "/?%?41",
		"a%", "%", "?%", "%4",
	} {
		if got, ok := impl.NormalTarget(s); got != "" || ok {
			t.Errorf("NormalTarget(%q) = %q, %v, want none", s, got, ok)
		}
		if impl.IsNormalTarget(s) {
			t.Errorf("IsNormalTarget(%q) = true", s)
		}
	}
}

func TestCodesOfEveryByte(t *testing.T) {
	for b := range 256 {
		one := string([]byte{byte(b)})
		lower, upper := "%"+hex.EncodeToString([]byte(one)), "%"+strings.ToUpper(hex.EncodeToString([]byte(one)))
		want := upper
		if strings.Contains(plainBytes, one) {
			want = one
		}
		for _, code := range []string{lower, upper, upper[:2] + lower[2:], lower[:2] + upper[2:]} {
			for _, x := range [][2]string{{"/x", ""}, {"/x", "y"}, {"/x/y", "/"}, {"/x?", ""}, {"/?x", "y"}} {
				s := x[0] + code + x[1]
				if got, ok := impl.NormalTarget(s); got != x[0]+want+x[1] || !ok {
					t.Errorf("NormalTarget(%q) = %q, %v, want %q, true", s, got, ok, x[0]+want+x[1])
				}
				checkTarget(t, s)
			}
		}
		for _, s := range []string{"/%" + one, "/%4" + one, "/%" + one + "4", "/?%f" + one, "/?%" + one + "F", one, one + "/", "/" + one, "/?" + one + "&a"} {
			checkTarget(t, s)
		}
	}
}

func TestNormalTargetAgainstAnotherWay(t *testing.T) {
	textsOf("/.a", 9, func(s string) { checkTarget(t, s) })
	textsOf("/.?&", 7, func(s string) { checkTarget(t, "/"+s) })
	textsOf("&ba?", 6, func(s string) { checkTarget(t, "/?"+s) })
	textsOf("%26eE", 5, func(s string) {
		checkTarget(t, "/"+s)
		checkTarget(t, "/a?"+s)
	})
	parts := []string{"%2e", ".", "/", "a", "%2F", "?", "&"}
	textsOf("0123456", 5, func(order string) {
		s := "/"
		for _, i := range order {
			s += parts[i-'0']
		}
		checkTarget(t, s)
	})
	variantsOf("/a/%2e./%c3?b=%7E&a", func(s string) { checkTarget(t, s) })
	checkTarget(t, strings.Repeat("/a", 20000)+strings.Repeat("/..", 15000))
	checkTarget(t, strings.Repeat("/..", 20000)+"?"+strings.Repeat("b&a&", 5000))
	checkTarget(t, "/"+strings.Repeat("%61%2f", 20000))
	checkTarget(t, "/"+strings.Repeat("%25", 20000)+"%")
}

func TestKeyOf(t *testing.T) {
	for _, x := range []struct {
		r    impl.Request
		want string
	}{
		{request("GET", "h", "/"), "h/"}, {request("GET", "h", "/b/%61?d&c"), "h/b/a?c&d"}, {request("POST", "a.example", "/x/../y"), "a.example/y"}, {request("HEAD", "h", "/?", "range", "bytes=0-1"), "h/"}, {request("M", "-", "/.."), "-/"},
		{request("GET", strings.Repeat("h", 40), "/"+strings.Repeat("t", 99)), strings.Repeat("h", 40) + "/" + strings.Repeat("t", 99)}, {impl.Request{Method: "GET", Host: "h", Target: "/", Fields: manyFields(23)}, "h/"},
	} {
		if got, ok := impl.KeyOf(x.r); got != x.want || !ok {
			t.Errorf("KeyOf(%q) = %q, %v, want %q, true", x.r, got, ok, x.want)
		}
	}
	for _, r := range []impl.Request{
		// Requests that are not valid.
		{}, request("get", "h", "/"), request("", "h", "/"), request("GET", "", "/"), request("GET", "H", "/"), request("GET", "h", ""), request("GET", "h", "a"), request("GET", "h", "?a"), request("GET", "h", "/a b"), request("GET", "h", "/ü"), request("GET", "h", "/"+strings.Repeat("t", 100)), request("GET", "h", strings.Repeat("/a/..", 20)+"/"), request("GET", "h", "/", "host", "h"), request("GET", "h", "/", "content-length", "0"), request("GET", "h", "/", "A", "1"), {Method: "GET", Host: "h", Target: "/", Fields: manyFields(24)},
		// Targets that are bad, in a valid request and in another one.
		request("GET", "h", "/%"), request("GET", "h", "/%4"), request("GET", "h", "/a?%zz"), request("GET", "h", "/%41%"), request("get", "h", "/%"), request("GET", "", "/%4"),
	} {
		if got, ok := impl.KeyOf(r); got != "" || ok {
			t.Errorf("KeyOf(%q) = %q, %v, want none", r, got, ok)
		}
	}
}

// otherWays returns other ways of writing a target: with codes for bytes that need none or codes in other letters,
// with components that are dots, and with empty parts of the query or its parts in another order.
func otherWays(s string) []string {
	l := []string{}
	path, query, has := strings.Cut(s, "?")
	for i := 0; i < len(s); i++ {
		b := s[i : i+1]
		switch {
		case b == "%":
			l = append(l, s[:i]+strings.ToLower(s[i:i+3])+s[i+3:])
			i += 2
		case strings.Contains(plainBytes, b):
			code := hex.EncodeToString([]byte(b))
			l = append(l, s[:i]+"%"+code+s[i+1:], s[:i]+"%"+strings.ToUpper(code)+s[i+1:])
		case b == "/" && i < len(path):
			l = append(l, s[:i]+"/."+s[i:], s[:i]+"/x/.."+s[i:], s[:i]+"//.."+s[i:])
		case b == "&":
			l = append(l, s[:i]+"&"+s[i:], s[:i]+"&&"+s[i:])
		}
	}
	if !has {
		return append(l, "/.."+s, path+"?", path+"?&&")
	}
	parts := strings.Split(query, "&")
	slices.Reverse(parts)
	l = append(l, path+"?"+strings.Join(parts, "&"))
	parts = append(parts[1:], parts[0])
	return append(l, "/.."+s, path+"?&"+query, s+"&", path+"?"+strings.Join(parts, "&"))
}

func TestAllWaysOfWritingATargetHaveOneKey(t *testing.T) {
	targets := []string{"/", "/a", "/A", "/a/", "//a", "/a//", "/a/b", "/a%2Fb", "/a%25", "/~b/%C3%BC", "/a?b", "/a?b=1&c=2", "/a?b=1&b=2&c", "/a/?b=%2F&c", "/a?c=1", "/a/...", "/a?b&b", "/a%3Fb", "/a?%26", "/a?B"}
	keys := map[string]string{}
	for _, s := range targets {
		want, ok := impl.KeyOf(request("GET", "h.example", s))
		if !ok || want != "h.example"+s || !impl.IsNormalTarget(s) {
			t.Errorf("KeyOf the target %q = %q, %v", s, want, ok)
		}
		if other, has := keys[want]; has {
			t.Errorf("%q and %q have one key", s, other)
		}
		keys[want] = s
		for _, once := range otherWays(s) {
			for _, twice := range append(otherWays(once), once) {
				if got, ok := impl.KeyOf(request("PUT", "h.example", twice, "a", "1")); got != want || !ok {
					t.Fatalf("KeyOf the target %q = %q, %v, want %q as of %q", twice, got, ok, want, s)
				}
			}
		}
	}
}
