package tests

import (
	"math"
	"regexp"
	"slices"
	"strconv"
	"strings"
	"testing"

	"loop.example/g03012/impl"
)

// Whole messages as patterns: a first line, lines that are not empty, an empty line, and what stands behind it.
var (
	writtenRequest  = regexp.MustCompile("(?s)\\A([A-Z0-9!#$%&'*+.^_|~`-]{1,40}) (/[!-~]{0,99}) HTTP/1\\.1\r\n((?:[^\r\n]+\r\n)*)\r\n\\z")
	writtenResponse = regexp.MustCompile("(?s)\\AHTTP/1\\.1 ([2-5][0-9][0-9])\r\n((?:[^\r\n]+\r\n)*)\r\n(.{0,600})\\z")
	writtenHost     = regexp.MustCompile(`\A[a-z0-9.-]{1,40}\z`)
)

func names(l []impl.Field) []string {
	all := []string{}
	for _, f := range l {
		all = append(all, f.Name)
	}
	return all
}

func requestBy(s string) (impl.Request, bool) {
	m := writtenRequest.FindStringSubmatch(s)
	if m == nil {
		return impl.Request{}, false
	}
	l, ok := parsedBy(m[3])
	if !ok || len(l) == 0 || l[0].Name != "host" || !writtenHost.MatchString(l[0].Value) {
		return impl.Request{}, false
	}
	if slices.Contains(names(l[1:]), "host") || slices.Contains(names(l), "content-length") {
		return impl.Request{}, false
	}
	return impl.Request{Method: m[1], Host: l[0].Value, Target: m[2], Fields: l[1:]}, true
}

func responseBy(s string) (impl.Response, bool) {
	m := writtenResponse.FindStringSubmatch(s)
	if m == nil || len(m[3]) > 600 {
		return impl.Response{}, false
	}
	code, _ := strconv.Atoi(m[1])
	l, ok := parsedBy(m[2])
	last := len(l) - 1
	if !ok || slices.Index(names(l), "content-length") != last || last < 0 || l[last].Value != strconv.Itoa(len(m[3])) {
		return impl.Response{}, false
	}
	return impl.Response{Code: code, Fields: l[:last], Body: m[3]}, true
}

func sameRequest(a impl.Request, b impl.Request) bool {
	return a.Method == b.Method && a.Host == b.Host && a.Target == b.Target && slices.Equal(a.Fields, b.Fields)
}

func sameAnswer(a impl.Response, b impl.Response) bool {
	return a.Code == b.Code && slices.Equal(a.Fields, b.Fields) && a.Body == b.Body
}

func checkRequest(t *testing.T, s string) {
	t.Helper()
	want, wantOK := requestBy(s)
	if got, ok := impl.ParseRequest(s); !sameRequest(got, want) || ok != wantOK {
		t.Fatalf("ParseRequest(%q) = %#v, %v, want %#v, %v", s, got, ok, want, wantOK)
	}
}

func checkResponse(t *testing.T, s string) {
	t.Helper()
	want, wantOK := responseBy(s)
	if got, ok := impl.ParseResponse(s); !sameAnswer(got, want) || ok != wantOK {
		t.Fatalf("ParseResponse(%q) = %#v, %v, want %#v, %v", s, got, ok, want, wantOK)
	}
}

// checkWrittenRequest looks whether a request is valid just if it should be, and then is written and read back.
func checkWrittenRequest(t *testing.T, r impl.Request, valid bool) {
	t.Helper()
	want := ""
	if valid {
		want = r.Method + " " + r.Target + " HTTP/1.1\r\nhost: " + r.Host + "\r\n" + impl.FormatFields(r.Fields) + "\r\n"
	}
	s := impl.FormatRequest(r)
	if s != want || impl.IsRequest(r) != valid {
		t.Fatalf("FormatRequest(%#v) = %q, want %q, and IsRequest = %v", r, s, want, impl.IsRequest(r))
	}
	got, ok := impl.ParseRequest(s)
	if ok != valid || valid && !sameRequest(got, r) || !valid && !sameRequest(got, impl.Request{}) {
		t.Fatalf("ParseRequest(%q) = %#v, %v, want %#v, %v", s, got, ok, r, valid)
	}
}

func checkWrittenResponse(t *testing.T, x impl.Response, valid bool) {
	t.Helper()
	want := ""
	if valid {
		want = "HTTP/1.1 " + strconv.Itoa(x.Code) + "\r\n" + impl.FormatFields(x.Fields) + "content-length: " + strconv.Itoa(len(x.Body)) + "\r\n\r\n" + x.Body
	}
	s := impl.FormatResponse(x)
	if s != want || impl.IsResponse(x) != valid {
		t.Fatalf("FormatResponse(%#v) = %q, want %q, and IsResponse = %v", x, s, want, impl.IsResponse(x))
	}
	got, ok := impl.ParseResponse(s)
	if ok != valid || valid && !sameAnswer(got, x) || !valid && !sameAnswer(got, impl.Response{}) {
		t.Fatalf("ParseResponse(%q) = %#v, %v, want %#v, %v", s, got, ok, x, valid)
	}
}

func request(method string, host string, target string, fields ...string) impl.Request {
	return impl.Request{Method: method, Host: host, Target: target, Fields: pairs(fields...)}
}

func answer(code int, body string, fields ...string) impl.Response {
	return impl.Response{Code: code, Fields: pairs(fields...), Body: body}
}

func TestWrittenMessages(t *testing.T) {
	for _, x := range []struct {
		r    impl.Request
		want string
	}{
		{request("GET", "h", "/"), "GET / HTTP/1.1\r\nhost: h\r\n\r\n"},
		{request("PURGE", "a.example", "/a?b=c#d", "range", "bytes=0-1", "accept", ""), "PURGE /a?b=c#d HTTP/1.1\r\nhost: a.example\r\nrange: bytes=0-1\r\naccept: \r\n\r\n"},
		{request("GET", "h", "/", "a", "1", "a", "1", "hosts", "x"), "GET / HTTP/1.1\r\nhost: h\r\na: 1\r\na: 1\r\nhosts: x\r\n\r\n"},
		{request("get", "h", "/"), ""}, {impl.Request{}, ""},
	} {
		if got := impl.FormatRequest(x.r); got != x.want {
			t.Errorf("FormatRequest(%#v) = %q, want %q", x.r, got, x.want)
		}
	}
	for _, x := range []struct {
		x    impl.Response
		want string
	}{
		{answer(200, ""), "HTTP/1.1 200\r\ncontent-length: 0\r\n\r\n"},
		{answer(404, "a\r\n\r\nb", "date", "x", "age", "5"), "HTTP/1.1 404\r\ndate: x\r\nage: 5\r\ncontent-length: 6\r\n\r\na\r\n\r\nb"},
		{answer(206, "grün", "host", "h"), "HTTP/1.1 206\r\nhost: h\r\ncontent-length: 5\r\n\r\ngrün"},
		{answer(100, "a"), ""}, {impl.Response{}, ""},
	} {
		if got := impl.FormatResponse(x.x); got != x.want {
			t.Errorf("FormatResponse(%#v) = %q, want %q", x.x, got, x.want)
		}
	}
}

func TestRequestsAreReadBack(t *testing.T) {
	long := strings.Repeat("v", 200)
	for _, r := range []impl.Request{
		request("GET", "h", "/"), request("HEAD", "h.example", "/a?b"), request("M-SEARCH", "a-b.c", "/", "a", ""), request("!#$%&'*+-.^_|~`", "0", "/~"), request("0", "-", "//"), request("Q", ".", "/?"), request("GET", "h", "/", "range", "bytes=0-1", "x", "y", "range", "z"), request("GET", "h", "/HTTP/1.1"), request("GET", "h", "/", "hos", "1", "hostx", "2", "content-lengt", "3", "content-length-", "4", "content_length", "5"),
		// Each bound at its limit.
		request(strings.Repeat("M", 40), strings.Repeat("h", 40), "/"+strings.Repeat("t", 99), strings.Repeat("n", 40), long), {Method: "GET", Host: "h", Target: "/", Fields: manyFields(22)}, {Method: "GET", Host: "h", Target: "/", Fields: manyFields(23)},
	} {
		checkWrittenRequest(t, r, true)
	}
	for _, r := range []impl.Request{
		// Methods that are none.
		request("", "h", "/"), request("get", "h", "/"), request("GeT", "h", "/"), request("GETz", "h", "/"), request("aGET", "h", "/"), request("GET ", "h", "/"), request("G ET", "h", "/"), request(" GET", "h", "/"), request("G/T", "h", "/"), request("GET\r\n", "h", "/"), request("GÜT", "h", "/"), request("\xff", "h", "/"), request(strings.Repeat("M", 41), "h", "/"),
		// Hosts that are none.
		request("GET", "", "/"), request("GET", "H", "/"), request("GET", "h.Example", "/"), request("GET", "h:80", "/"), request("GET", "h h", "/"), request("GET", " h", "/"), request("GET", "h ", "/"), request("GET", "h_h", "/"), request("GET", "h\r\n", "/"), request("GET", "hü", "/"), request("GET", "h/", "/"), request("GET", strings.Repeat("h", 41), "/"), request("GET", "a[b", "/"),
		// Targets that are none.
		request("GET", "h", ""), request("GET", "h", "a"), request("GET", "h", "*"), request("GET", "h", " /"), request("GET", "h", "/ "), request("GET", "h", "/a b"), request("GET", "h", "/a\tb"), request("GET", "h", "/\r\n"), request("GET", "h", "/\x7f"), request("GET", "h", "/ü"), request("GET", "h", "http://h/"), request("GET", "h", "?/"), request("GET", "h", "/"+strings.Repeat("t", 100)),
		// Fields that may not be there, or are none.
		request("GET", "h", "/", "host", "h"), request("GET", "h", "/", "a", "1", "host", "h"), request("GET", "h", "/", "content-length", "0"), request("GET", "h", "/", "a", "1", "content-length", "5", "b", "2"), request("GET", "h", "/", "A", "1"), request("GET", "h", "/", "Host", "h"), request("GET", "h", "/", "", ""), request("GET", "h", "/", "a", "1 "), request("GET", "h", "/", "a", "1\r\nb: 2"), request("GET", "h", "/", "a", strings.Repeat("v", 201)), request("GET", "h", "/", strings.Repeat("n", 41), ""),
		{Method: "GET", Host: "h", Target: "/", Fields: manyFields(24)}, {Method: "GET", Host: "h", Target: "/", Fields: manyFields(25)}, {Method: "GET", Host: "h", Target: "/", Fields: manyFields(500)}, {},
	} {
		checkWrittenRequest(t, r, false)
	}
}

func TestResponsesAreReadBack(t *testing.T) {
	long := strings.Repeat("v", 200)
	for _, x := range []impl.Response{
		answer(200, ""), answer(200, "hi"), answer(304, "", "etag", "\"a\""), answer(404, "none", "date", "x", "cache-control", "max-age=10", "date", "y"), answer(200, manyBytes()), answer(200, "\r\n"), answer(200, "\r\n\r\n"), answer(200, "a: b\r\n\r\n"), answer(200, "\r\n\r\ncontent-length: 0\r\n\r\n"), answer(200, "HTTP/1.1 200\r\ncontent-length: 0\r\n\r\n"), answer(200, "\n"), answer(200, "a", "host", "h"), answer(200, "", "content-lengths", "1", "ontent-length", "2"),
		// Each bound at its limit.
		answer(200, strings.Repeat("b", 599)), answer(599, strings.Repeat("b", 600), strings.Repeat("n", 40), long), {Code: 201, Fields: manyFields(22)}, {Code: 598, Fields: manyFields(23), Body: "b"},
	} {
		checkWrittenResponse(t, x, true)
	}
	for _, x := range []impl.Response{
		answer(199, ""), answer(600, ""), answer(0, ""), answer(-200, ""), answer(100, ""), answer(20, ""), answer(2000, ""), answer(math.MaxInt, ""), answer(math.MinInt, ""),
		answer(200, strings.Repeat("b", 601)), answer(200, strings.Repeat("b", 5000)),
		answer(200, "", "content-length", "0"), answer(200, "", "a", "1", "content-length", "0", "b", "2"), answer(200, "", "A", "1"), answer(200, "", "a b", "1"), answer(200, "", "", "1"), answer(200, "", "a", " 1"), answer(200, "", "a", "1\r\n"), answer(200, "", "a", strings.Repeat("v", 201)), answer(200, "", strings.Repeat("n", 41), "1"), {Code: 200, Fields: manyFields(24)}, {Code: 200, Fields: manyFields(25)}, {Code: 200, Fields: manyFields(500)}, {},
	} {
		checkWrittenResponse(t, x, false)
	}
	for code := 190; code < 610; code++ {
		checkWrittenResponse(t, answer(code, "b", "a", "1"), 200 <= code && code <= 599)
	}
	for n := range 605 {
		checkWrittenResponse(t, answer(200, strings.Repeat("\r", n)), n <= 600)
	}
}

func TestMessagesAtEveryByte(t *testing.T) {
	for b := range 256 {
		one := string([]byte{byte(b)})
		inMethod := strings.Contains(tokenBytes, one) && (b < 'a' || b > 'z')
		inHost := 'a' <= b && b <= 'z' || '0' <= b && b <= '9' || b == '-' || b == '.'
		inTarget := 33 <= b && b <= 126
		for _, x := range []string{one, one + "A", "A" + one, "A" + one + "A"} {
			checkWrittenRequest(t, request(x, "h", "/"), inMethod)
		}
		for _, x := range []string{one, one + "h", "h" + one, "h" + one + "h"} {
			checkWrittenRequest(t, request("GET", x, "/"), inHost)
		}
		for _, x := range []string{"/" + one, "/" + one + "t", "/t" + one + "t"} {
			checkWrittenRequest(t, request("GET", "h", x), inTarget)
		}
		checkWrittenRequest(t, request("GET", "h", one), b == '/')
		checkWrittenRequest(t, request("GET", "h", one+"/"), b == '/')
		checkWrittenRequest(t, request("GET", "h", "/", "a", "x"+one+"y"), 32 <= b && b <= 126 || b == '\t')
		checkWrittenResponse(t, answer(200, one), true)
		checkWrittenResponse(t, answer(200, "b"+one+one+"\r\n", "a", "x"+one+"y"), 32 <= b && b <= 126 || b == '\t')
	}
}

func TestParseRequest(t *testing.T) {
	for s, want := range map[string]impl.Request{
		"GET / HTTP/1.1\r\nhost: h\r\n\r\n": request("GET", "h", "/"), "GET /a HTTP/1.1\r\nHost: h\r\nX-A:  1\r\n\r\n": request("GET", "h", "/a", "x-a", "1"),
		// Names with capital letters, and blanks around values or none.
		"GET / HTTP/1.1\r\nHOST:h\r\n\r\n": request("GET", "h", "/"), "GET / HTTP/1.1\r\nhOsT: \t h\t \r\nRANGE:\t x y \r\nb:\r\n\r\n": request("GET", "h", "/", "range", "x y", "b", ""),
		"A /HTTP/1.1 HTTP/1.1\r\nhost: h\r\na: GET / HTTP/1.1\r\n\r\n": request("A", "h", "/HTTP/1.1", "a", "GET / HTTP/1.1"),
	} {
		if got, ok := impl.ParseRequest(s); !sameRequest(got, want) || !ok {
			t.Errorf("ParseRequest(%q) = %#v, %v, want %#v, true", s, got, ok, want)
		}
	}
	for _, s := range []string{
		"", "\r\n", "\r\n\r\n", "GET", "GET / HTTP/1.1", "GET / HTTP/1.1\r\n", "GET / HTTP/1.1\r\n\r\n", "host: h\r\n\r\n", "\r\nGET / HTTP/1.1\r\nhost: h\r\n\r\n",
		// The head does not end, or something stands behind its end.
		"GET / HTTP/1.1\r\nhost: h", "GET / HTTP/1.1\r\nhost: h\r\n", "GET / HTTP/1.1\r\nhost: h\r\n\r", "GET / HTTP/1.1\r\nhost: h\r\n\n", "GET / HTTP/1.1\r\nhost: h\n\r\n", "GET / HTTP/1.1\r\nhost: h\n\n", "GET / HTTP/1.1\r\nhost: h\r\r\n", "GET / HTTP/1.1\nhost: h\r\n\r\n", "GET / HTTP/1.1\rhost: h\r\n\r\n", "GET / HTTP/1.1\r\nhost: h\n\r\n\r\n", "GET / HTTP/1.1\r\nhost: h\r\r\n\r\n",
		"GET / HTTP/1.1\r\nhost: h\r\n\r\nx", "GET / HTTP/1.1\r\nhost: h\r\n\r\n\r\n", "GET / HTTP/1.1\r\nhost: h\r\n\r\n\n", "GET / HTTP/1.1\r\nhost: h\r\n\r\na: 1\r\n\r\n", "GET / HTTP/1.1\r\n\r\nhost: h\r\n\r\n", "GET / HTTP/1.1\r\nhost: h\r\n\r\n ",
		// First lines with more or fewer spaces, or of another form.
		"GET  / HTTP/1.1\r\nhost: h\r\n\r\n", "GET /  HTTP/1.1\r\nhost: h\r\n\r\n", "GET / HTTP/1.1 \r\nhost: h\r\n\r\n", " GET / HTTP/1.1\r\nhost: h\r\n\r\n", "GET/ HTTP/1.1\r\nhost: h\r\n\r\n", "GET /HTTP/1.1\r\nhost: h\r\n\r\n", "GET HTTP/1.1\r\nhost: h\r\n\r\n", "GET  HTTP/1.1\r\nhost: h\r\n\r\n", "GET/HTTP/1.1\r\nhost: h\r\n\r\n", "GET /a b HTTP/1.1\r\nhost: h\r\n\r\n", "GET\t/ HTTP/1.1\r\nhost: h\r\n\r\n", "GET /\tHTTP/1.1\r\nhost: h\r\n\r\n", " / HTTP/1.1\r\nhost: h\r\n\r\n", "/ HTTP/1.1\r\nhost: h\r\n\r\n",
		"GET / HTTP/1.0\r\nhost: h\r\n\r\n", "GET / http/1.1\r\nhost: h\r\n\r\n", "GET / HTTP/1.11\r\nhost: h\r\n\r\n", "GET / HTTP/1.1 HTTP/1.1\r\nhost: h\r\n\r\n", "GET /\r\nhost: h\r\n\r\n", "GET / \r\nhost: h\r\n\r\n", "get / HTTP/1.1\r\nhost: h\r\n\r\n", "GET a HTTP/1.1\r\nhost: h\r\n\r\n", "GET  HTTP/1.1 HTTP/1.1\r\nhost: h\r\n\r\n",
		// No host line, one that is not the first, two, or one of another form.
		"GET / HTTP/1.1\r\na: 1\r\n\r\n", "GET / HTTP/1.1\r\na: 1\r\nhost: h\r\n\r\n", "GET / HTTP/1.1\r\nhost: h\r\nhost: h\r\n\r\n", "GET / HTTP/1.1\r\nhost: h\r\nHost: i\r\n\r\n", "GET / HTTP/1.1\r\nhost:\r\n\r\n", "GET / HTTP/1.1\r\nhost: H\r\n\r\n", "GET / HTTP/1.1\r\nhost: h h\r\n\r\n", "GET / HTTP/1.1\r\nhost : h\r\n\r\n", "GET / HTTP/1.1\r\n host: h\r\n\r\n", "GET / HTTP/1.1\r\nhosts: h\r\n\r\n", "GET / HTTP/1.1\r\nhost h\r\n\r\n",
		// Fields that may not be there, or are none.
		"GET / HTTP/1.1\r\nhost: h\r\ncontent-length: 0\r\n\r\n", "GET / HTTP/1.1\r\nhost: h\r\nContent-Length: 0\r\na: 1\r\n\r\n", "GET / HTTP/1.1\r\ncontent-length: 0\r\nhost: h\r\n\r\n", "GET / HTTP/1.1\r\nhost: h\r\na\r\n\r\n", "GET / HTTP/1.1\r\nhost: h\r\na b: 1\r\n\r\n", "GET / HTTP/1.1\r\nhost: h\r\na: \x01\r\n\r\n", "GET / HTTP/1.1\r\nhost: h\r\n: 1\r\n\r\n",
		"HTTP/1.1 200\r\ncontent-length: 0\r\n\r\n",
	} {
		if got, ok := impl.ParseRequest(s); !sameRequest(got, impl.Request{}) || ok {
			t.Errorf("ParseRequest(%q) = %#v, %v, want none", s, got, ok)
		}
	}
}

func TestParseResponse(t *testing.T) {
	for s, want := range map[string]impl.Response{
		"HTTP/1.1 200\r\ncontent-length: 0\r\n\r\n": answer(200, ""), "HTTP/1.1 599\r\nA:b\r\nCONTENT-Length:\t 2 \r\n\r\nhi": answer(599, "hi", "a", "b"), "HTTP/1.1 200\r\ncontent-length:4\r\n\r\n\r\n\r\n": answer(200, "\r\n\r\n"), "HTTP/1.1 200\r\ncontent-length: 2\r\n\r\n\r\n": answer(200, "\r\n"), "HTTP/1.1 200\r\nHost: h\r\nx:\r\ncontent-length: 1\r\n\r\n\n": answer(200, "\n", "host", "h", "x", ""),
		"HTTP/1.1 200\r\ncontent-length: 10\r\n\r\n0123456789": answer(200, "0123456789"),
	} {
		if got, ok := impl.ParseResponse(s); !sameAnswer(got, want) || !ok {
			t.Errorf("ParseResponse(%q) = %#v, %v, want %#v, true", s, got, ok, want)
		}
	}
	for _, s := range []string{
		"", "\r\n", "\r\n\r\n", "HTTP/1.1 200", "HTTP/1.1 200\r\n", "HTTP/1.1 200\r\n\r\n", "HTTP/1.1 200\r\n\r\nhi", "content-length: 0\r\n\r\n",
		// The head does not end, or another body stands behind its end.
		"HTTP/1.1 200\r\ncontent-length: 0", "HTTP/1.1 200\r\ncontent-length: 0\r\n", "HTTP/1.1 200\r\ncontent-length: 0\r\n\r", "HTTP/1.1 200\r\ncontent-length: 0\r\n\n", "HTTP/1.1 200\r\ncontent-length: 0\n\r\n", "HTTP/1.1 200\ncontent-length: 0\r\n\r\n", "HTTP/1.1 200\rcontent-length: 0\r\n\r\n", "HTTP/1.1 200\r\ncontent-length: 0\r\n\r\n!", "HTTP/1.1 200\r\ncontent-length: 2\r\n\r\nhi!", "HTTP/1.1 200\r\ncontent-length: 2\r\n\r\nh", "HTTP/1.1 200\r\ncontent-length: 2\r\nhi", "HTTP/1.1 200\r\n\r\ncontent-length: 0\r\n\r\n", "HTTP/1.1 200\r\na: b\r\n\r\ncontent-length: 0\r\n\r\n",
		// Other first lines.
		"HTTP/1.1  200\r\ncontent-length: 0\r\n\r\n", "HTTP/1.1 200 \r\ncontent-length: 0\r\n\r\n", "HTTP/1.1 200 OK\r\ncontent-length: 0\r\n\r\n", " HTTP/1.1 200\r\ncontent-length: 0\r\n\r\n", "HTTP/1.1200\r\ncontent-length: 0\r\n\r\n", "HTTP/1.1\r\ncontent-length: 0\r\n\r\n", "HTTP/1.1 \r\ncontent-length: 0\r\n\r\n", "HTTP/1.0 200\r\ncontent-length: 0\r\n\r\n", "http/1.1 200\r\ncontent-length: 0\r\n\r\n", "200\r\ncontent-length: 0\r\n\r\n", "HTTP/1.1 0200\r\ncontent-length: 0\r\n\r\n", "HTTP/1.1 +200\r\ncontent-length: 0\r\n\r\n", "HTTP/1.1 199\r\ncontent-length: 0\r\n\r\n", "HTTP/1.1 600\r\ncontent-length: 0\r\n\r\n", "HTTP/1.1 -200\r\ncontent-length: 0\r\n\r\n", "HTTP/1.1 2x0\r\ncontent-length: 0\r\n\r\n", "HTTP/1.1 18446744073709551816\r\ncontent-length: 0\r\n\r\n",
		// A content-length that is not the last, that is missing, twice, too great, too small or no decimal form.
		"HTTP/1.1 200\r\ncontent-length: 0\r\na: b\r\n\r\n", "HTTP/1.1 200\r\na: b\r\n\r\n", "HTTP/1.1 200\r\na: b\r\n\r\nhi", "HTTP/1.1 200\r\ncontent-length: 0\r\ncontent-length: 0\r\n\r\n", "HTTP/1.1 200\r\ncontent-length: 2\r\nContent-Length: 2\r\n\r\nhi", "HTTP/1.1 200\r\ncontent-length: 3\r\n\r\nhi", "HTTP/1.1 200\r\ncontent-length: 1\r\n\r\nhi", "HTTP/1.1 200\r\ncontent-length: 02\r\n\r\nhi", "HTTP/1.1 200\r\ncontent-length: 00\r\n\r\n", "HTTP/1.1 200\r\ncontent-length: +2\r\n\r\nhi", "HTTP/1.1 200\r\ncontent-length: -0\r\n\r\n", "HTTP/1.1 200\r\ncontent-length:\r\n\r\n", "HTTP/1.1 200\r\ncontent-length: x\r\n\r\n", "HTTP/1.1 200\r\ncontent-length: 0x2\r\n\r\nhi", "HTTP/1.1 200\r\ncontent-length: 2, 2\r\n\r\nhi", "HTTP/1.1 200\r\ncontent-length: \"2\"\r\n\r\nhi", "HTTP/1.1 200\r\ncontent-length: 18446744073709551618\r\n\r\nhi", "HTTP/1.1 200\r\ncontent-length : 2\r\n\r\nhi", "HTTP/1.1 200\r\ncontent-length 2\r\n\r\nhi",
		"HTTP/1.1 200\r\ncontent-length: 601\r\n\r\n" + strings.Repeat("b", 601), "HTTP/1.1 200\r\na\r\ncontent-length: 0\r\n\r\n", "HTTP/1.1 200\r\na: \x01\r\ncontent-length: 0\r\n\r\n",
		"GET / HTTP/1.1\r\nhost: h\r\n\r\n",
	} {
		if got, ok := impl.ParseResponse(s); !sameAnswer(got, impl.Response{}) || ok {
			t.Errorf("ParseResponse(%q) = %#v, %v, want none", s, got, ok)
		}
	}
}

func TestMessagesWithAsManyFieldsAsThereMayBe(t *testing.T) {
	for n := range 30 {
		checkRequest(t, "GET / HTTP/1.1\r\nhost: h\r\n"+impl.FormatFields(manyFields(n))+"\r\n")
		checkResponse(t, "HTTP/1.1 200\r\n"+impl.FormatFields(manyFields(n))+"content-length: 1\r\n\r\nb")
		if _, ok := impl.ParseRequest("GET / HTTP/1.1\r\nhost: h\r\n" + impl.FormatFields(manyFields(n)) + "\r\n"); ok != (n <= 23) {
			t.Errorf("a request with %d fields: %v", n, ok)
		}
		if _, ok := impl.ParseResponse("HTTP/1.1 200\r\n" + impl.FormatFields(manyFields(n)) + "content-length: 0\r\n\r\n"); ok != (n <= 23) {
			t.Errorf("a response with %d fields: %v", n, ok)
		}
	}
	for n := 30; n < 110; n++ {
		checkRequest(t, "GET /"+strings.Repeat("t", n)+" HTTP/1.1\r\nhost: h\r\n\r\n")
		checkRequest(t, strings.Repeat("M", n)+" / HTTP/1.1\r\nhost: h\r\n\r\n")
		checkRequest(t, "GET / HTTP/1.1\r\nhost: "+strings.Repeat("h", n)+"\r\n\r\n")
	}
}

// Where the head ends: all short texts of the bytes that matter there, and all lengths that may fit.
func TestHeadsAgainstPatterns(t *testing.T) {
	textsOf("\r\na:", 7, func(s string) {
		checkRequest(t, "GET / HTTP/1.1\r\nhost: h"+s)
		checkResponse(t, "HTTP/1.1 200\r\ncontent-length: 0"+s)
	})
	textsOf("\r\na:", 5, func(s string) {
		checkRequest(t, "GET / HTTP/1.1"+s+"\r\nhost: h\r\n\r\n")
		checkRequest(t, "GET / HTTP/1.1\r\nhost: h\r\n"+s+"\r\n\r\n")
		checkRequest(t, "GET / HTTP/1.1\r\nhost: h\r\n\r\n"+s)
		checkResponse(t, "HTTP/1.1 200"+s+"\r\ncontent-length: 0\r\n\r\n")
		for n := range 7 {
			checkResponse(t, "HTTP/1.1 200\r\ncontent-length: "+strconv.Itoa(n)+"\r\n\r\n"+s)
		}
	})
	textsOf(" /A\t", 6, func(s string) {
		checkRequest(t, s+" HTTP/1.1\r\nhost: h\r\n\r\n")
		checkRequest(t, "A / "+s+"HTTP/1.1\r\nhost: h\r\n\r\n")
	})
	textsOf("02 \t+", 5, func(s string) {
		checkResponse(t, "HTTP/1.1 "+s+"\r\ncontent-length: 0\r\n\r\n")
		checkResponse(t, "HTTP/1.1 200\r\ncontent-length: "+s+"\r\n\r\nhi")
		checkResponse(t, "HTTP/1.1 200\r\ncontent-length:"+s+"\r\n\r\n"+strings.Repeat("b", 20))
	})
}

func TestMessagesAgainstPatterns(t *testing.T) {
	variantsOf("GET /a?b HTTP/1.1\r\nHost: h.x\r\nA: b\r\n\r\n", func(s string) { checkRequest(t, s) })
	variantsOf("HTTP/1.1 206\r\nA: b\r\nContent-Length: 4\r\n\r\nx\r\n\r", func(s string) { checkResponse(t, s) })
	// Lines of fields in every order, once, twice or not at all.
	parts := []string{"host: h\r\n", "Content-Length: 2\r\n", "a: 1\r\n", "\r\n"}
	textsOf("0123", 5, func(order string) {
		head := ""
		for _, i := range order {
			head += parts[i-'0']
		}
		checkRequest(t, "GET / HTTP/1.1\r\n"+head)
		checkRequest(t, "GET / HTTP/1.1\r\n"+head+"\r\n")
		checkResponse(t, "HTTP/1.1 200\r\n"+head+"\r\nhi")
		checkResponse(t, "HTTP/1.1 200\r\n"+head)
	})
	checkRequest(t, "GET / HTTP/1.1\r\nhost: h\r\n"+strings.Repeat("a: 1\r\n", 5000)+"\r\n")
	checkResponse(t, strings.Repeat("\r\n", 5000))
	checkResponse(t, "HTTP/1.1 200\r\ncontent-length: 5000\r\n\r\n"+strings.Repeat("b", 5000))
	checkRequest(t, strings.Repeat(" ", 5000))
}

func TestIsSafe(t *testing.T) {
	for method, want := range map[string]bool{
		"GET": true, "HEAD": true, "OPTIONS": true,
		"": false, "POST": false, "PUT": false, "DELETE": false, "PATCH": false, "PURGE": false, "TRACE": false, "CONNECT": false, "get": false, "Get": false, "head": false, "options": false, "GETS": false, "GE": false, " GET": false, "GET ": false, "OPTION": false, "GET, HEAD": false, "GETHEAD": false,
	} {
		if got := impl.IsSafe(method); got != want {
			t.Errorf("IsSafe(%q) = %v, want %v", method, got, want)
		}
	}
}

func TestSameResponse(t *testing.T) {
	l := []impl.Response{
		{}, answer(200, ""), answer(200, "b"), answer(200, "B"), answer(404, "b"), answer(200, "b", "a", "1"), answer(200, "b", "a", "2"), answer(200, "b", "a", "1", "c", "2"), answer(200, "b", "c", "2", "a", "1"), answer(200, "b", "a", "1", "a", "1"), answer(200, "", "a", "1"), answer(-1, "b", "a", "1"), answer(0, "b"), answer(0, "", "A", ""),
	}
	for i, a := range l {
		for k, b := range l {
			if got := impl.SameResponse(a, b); got != (i == k) {
				t.Errorf("SameResponse(%#v, %#v) = %v", a, b, got)
			}
		}
		same := impl.Response{Code: a.Code, Fields: slices.Clone(a.Fields), Body: strings.Clone(a.Body)}
		if !impl.SameResponse(a, same) {
			t.Errorf("SameResponse(%#v) of itself = false", a)
		}
	}
	if !impl.SameResponse(impl.Response{Code: 200, Fields: []impl.Field{}}, impl.Response{Code: 200}) {
		t.Error("no fields are not the same as no fields")
	}
}

func TestMessagesShareNoMemory(t *testing.T) {
	room := impl.Field{Name: "room", Value: "room"}
	for _, l := range [][]impl.Field{pairs("a", "1", "b", "2"), pairs("Bad", "1"), pairs("host", "h"), nil} {
		checkNewMemory(t, "FormatRequest", l, room, func(l []impl.Field) []string {
			r := impl.Request{Method: "GET", Host: "h", Target: "/", Fields: l}
			return []string{impl.FormatRequest(r), strconv.FormatBool(impl.IsRequest(r))}
		})
		checkNewMemory(t, "FormatResponse", l, room, func(l []impl.Field) []string {
			x := impl.Response{Code: 200, Fields: l, Body: "b"}
			return []string{impl.FormatResponse(x), strconv.FormatBool(impl.IsResponse(x) && impl.SameResponse(x, x))}
		})
		checkNewMemory(t, "ParseRequest", l, room, func([]impl.Field) []impl.Field {
			r, _ := impl.ParseRequest("GET / HTTP/1.1\r\nhost: h\r\na: 1\r\nb: 2\r\n\r\n")
			return r.Fields
		})
		checkNewMemory(t, "ParseResponse", l, room, func([]impl.Field) []impl.Field {
			x, _ := impl.ParseResponse("HTTP/1.1 200\r\na: 1\r\nb: 2\r\ncontent-length: 1\r\n\r\nb")
			return x.Fields
		})
	}
}
