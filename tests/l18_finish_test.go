package tests

import (
	"fmt"
	"math"
	"regexp"
	"slices"
	"strconv"
	"strings"
	"testing"

	"loop.example/g03012/impl"
)

var (
	shortName = regexp.MustCompile(`\A(date|etag|cache-control|vary|expires|age|surrogate-key|x-purge)\z`)
	partHead  = regexp.MustCompile("\\A--[0-9a-f]{8}\r\ncontent-range: ([^\r\n]*)\r\n\r\n")
)

func boundaryBy(x impl.Response) string {
	etag, _ := valuesBy(x.Fields, "etag")
	l := []int{1}
	for _, b := range []byte(etag) {
		l = append(l, int(b))
	}
	return fmt.Sprintf("%08x", digestOf(l))
}

// partsBy writes parts of a page.
func partsBy(boundary string, length int, l ...impl.Piece) string {
	s := ""
	for _, p := range l {
		s += fmt.Sprintf("--%s\r\ncontent-range: bytes %d-%d/%d\r\n\r\n%s\r\n", boundary, p.From, p.From+len(p.Data)-1, length, p.Data)
	}
	return s + "--" + boundary + "--"
}

// askedBy returns the runs of the bytes of a page for which somebody asks.
func askedBy(asks []impl.Ask, page string) []impl.Piece {
	l := []impl.Piece{}
	open := false
	for i := range len(page) {
		asked := slices.ContainsFunc(asks, func(x impl.Ask) bool { return asksFor(x, len(page), i) })
		if asked && !open {
			l = append(l, piece(i, ""))
		}
		if open = asked; asked {
			l[len(l)-1].Data += page[i : i+1]
		}
	}
	return l
}

// finishedBy returns the answer for a request and the bytes of the page that it needs.
func finishedBy(r impl.Request, x impl.Response) (impl.Response, []impl.Piece) {
	all := []impl.Piece{piece(0, x.Body)}
	whole := answer(x.Code, x.Body)
	whole.Fields = slices.Clone(x.Fields)
	if r.Method == "HEAD" {
		whole.Body, all = "", nil
	}
	if x.Code != 200 || r.Method != "GET" && r.Method != "HEAD" {
		return whole, all
	}
	short := slices.DeleteFunc(slices.Clone(x.Fields), func(f impl.Field) bool { return !shortName.MatchString(f.Name) })
	if code := conditionsBy(r, x); code != 200 {
		return impl.Response{Code: code, Fields: short}, nil
	}
	value, _ := valuesBy(r.Fields, "range")
	asks, ok := rangesBy(value)
	if !ok || r.Method == "HEAD" || !rangeHoldsBy(r, x) {
		return whole, all
	}
	parts := askedBy(asks, x.Body)
	switch len(parts) {
	case 0:
		return impl.Response{Code: 416, Fields: append(short, pairs("content-range", fmt.Sprintf("bytes */%d", len(x.Body)))...)}, nil
	case 1:
		last := fmt.Sprintf("bytes %d-%d/%d", parts[0].From, parts[0].From+len(parts[0].Data)-1, len(x.Body))
		return impl.Response{Code: 206, Fields: append(whole.Fields, pairs("content-range", last)...), Body: parts[0].Data}, parts
	}
	body := partsBy(boundaryBy(x), len(x.Body), parts...)
	if len(body) > 600 {
		return whole, all
	}
	return impl.Response{Code: 206, Fields: append(whole.Fields, pairs("content-type", "multipart/byteranges; boundary="+boundaryBy(x))...), Body: body}, parts
}

// piecesBy reads the places of all parts, and looks whether they, written again, give the body.
func piecesBy(x impl.Response) ([]impl.Piece, int, bool) {
	place, _ := valuesBy(x.Fields, "content-range")
	kind, _ := valuesBy(x.Fields, "content-type")
	l := []impl.Piece{}
	at, length, ok := contentRangeBy(place)
	if ok && at.To-at.From == len(x.Body) {
		l = append(l, piece(at.From, x.Body))
	} else {
		rest := x.Body
		for m := partHead.FindStringSubmatch(rest); m != nil; m = partHead.FindStringSubmatch(rest) {
			at, length, _ = contentRangeBy(m[1])
			rest = rest[len(m[0]):]
			size := min(at.To-at.From, len(rest))
			l = append(l, piece(at.From, rest[:size]))
			rest = rest[min(size+2, len(rest)):]
		}
		if kind != "multipart/byteranges; boundary="+boundaryBy(x) || x.Body != partsBy(boundaryBy(x), length, l...) {
			return nil, 0, false
		}
	}
	if x.Code != 206 || len(l) == 0 || !arePiecesBy(l, length) {
		return nil, 0, false
	}
	return l, length, true
}

func checkFinished(t *testing.T, r impl.Request, x impl.Response, want impl.Response) {
	t.Helper()
	if got := impl.FinishAnswer(r, x); !sameAnswer(got, want) {
		t.Errorf("FinishAnswer(%q, %#v) = %#v, want %#v", r, x, got, want)
	}
	if by, _ := finishedBy(r, x); !sameAnswer(by, want) {
		t.Errorf("%q and %#v should give %#v, want %#v", r, x, by, want)
	}
}

func checkPieces(t *testing.T, x impl.Response, length int, want ...impl.Piece) {
	t.Helper()
	got, n, ok := impl.PiecesOf(x)
	if !slices.Equal(got, want) || n != length || ok != (len(want) > 0) {
		t.Errorf("PiecesOf(%#v) = %v, %d, %v, want %v, %d", x, got, n, ok, want, length)
	}
	if by, n, ok := piecesBy(x); !slices.Equal(by, want) || n != length || ok != (len(want) > 0) {
		t.Errorf("%#v should have %v, %d, %v, want %v, %d", x, by, n, ok, want, length)
	}
}

// letters is an answer with ten bytes and fields of all kinds, the short ones between others.
func letters() impl.Response {
	return answer(200, "abcdefghij", "x-a", "1", "date", stamp(60), "last-modified", stamp(50), "etag", `"v1"`, "content-language", "de", "cache-control", "public", "age-b", "2", "vary", "a", "content-type", "t", "expires", "0", "vary", "b", "age", "3", "x-purges", "4", "surrogate-key", "k", "content-range", "c", "x-purge", "5", "server", "s")
}

// shortLetters are those of its fields that answers without a page have.
func shortLetters() []impl.Field {
	return pairs("date", stamp(60), "etag", `"v1"`, "cache-control", "public", "vary", "a", "expires", "0", "vary", "b", "age", "3", "surrogate-key", "k", "x-purge", "5")
}

func TestFinishAnswerLeavesOthersAsTheyAre(t *testing.T) {
	asks := []string{"range", "bytes=0-1, 3-4", "if-match", `"v2"`, "if-none-match", "*"}
	for _, code := range []int{-1, 0, 199, 201, 204, 206, 304, 400, 404, 405, 410, 412, 416, 500, 599, math.MaxInt} {
		x := letters()
		x.Code = code
		bare := letters()
		bare.Code, bare.Body = code, ""
		for _, l := range [][]string{nil, asks} {
			checkFinished(t, request("GET", "h", "/", l...), x, x)
			checkFinished(t, request("POST", "h", "/", l...), x, x)
			checkFinished(t, request("HEAD", "h", "/", l...), x, bare)
		}
	}
	for _, method := range []string{"POST", "PUT", "OPTIONS", "get", "head", "GETS", ""} {
		checkFinished(t, request(method, "h", "/", asks...), letters(), letters())
	}
	checkFinished(t, impl.Request{}, impl.Response{}, impl.Response{})
	long := answer(200, strings.Repeat("b", 5000))
	checkFinished(t, request("GET", "h", "/"), long, long)
	checkFinished(t, request("GET", "h", "/", "range", "bytes=1-4990"), long, answer(206, strings.Repeat("b", 4990), "content-range", "bytes 1-4990/5000"))
}

func TestFinishAnswerByConditions(t *testing.T) {
	for _, method := range []string{"GET", "HEAD"} {
		for _, l := range [][]string{{"if-none-match", `W/"v1"`}, {"if-none-match", "*", "range", "bytes=0-1"}, {"if-modified-since", stamp(50)}, {"if-match", `"v1"`, "if-none-match", `"v1"`, "range", "bytes=20-"}} {
			checkFinished(t, request(method, "h", "/", l...), letters(), impl.Response{Code: 304, Fields: shortLetters()})
		}
		for _, l := range [][]string{{"if-match", `W/"v1"`}, {"if-match", "", "range", "bytes=0-1"}, {"if-unmodified-since", stamp(49)}, {"if-match", `"v2"`, "if-none-match", `"v1"`, "range", "bytes=20-"}} {
			checkFinished(t, request(method, "h", "/", l...), letters(), impl.Response{Code: 412, Fields: shortLetters()})
		}
		checkFinished(t, request(method, "h", "/", "if-none-match", "*"), answer(200, "b"), impl.Response{Code: 304})
		checkFinished(t, request(method, "h", "/", "if-none-match", "*"), answer(200, "", "Date", "1", "dat", "2", "etags", "3", "x-age", "4"), impl.Response{Code: 304})
	}
}

func TestFinishAnswerByRanges(t *testing.T) {
	x := letters()
	bare := letters()
	bare.Body = ""
	b := "--" + boundaryBy(x)
	with := func(name string, value string) []impl.Field { return append(letters().Fields, pairs(name, value)...) }
	get := func(ranges string, more ...string) impl.Request {
		return request("GET", "h", "/", append([]string{"range", ranges}, more...)...)
	}
	// One part, also of several asks that touch or overlap, and as long as the page.
	for ranges, want := range map[string][2]string{"bytes=2-4": {"cde", "bytes 2-4/10"}, "bytes=0-0": {"a", "bytes 0-0/10"}, "bytes=9-": {"j", "bytes 9-9/10"}, "bytes=-3": {"hij", "bytes 7-9/10"}, "bytes=8-20": {"ij", "bytes 8-9/10"}, "bytes=0-": {x.Body, "bytes 0-9/10"}, "bytes=-99": {x.Body, "bytes 0-9/10"}, "bytes=3-4, 5-6": {"defg", "bytes 3-6/10"}, "bytes=5-7, 3-5, 4-4": {"defgh", "bytes 3-7/10"}, "bytes=2-4, 20-": {"cde", "bytes 2-4/10"}, "bytes=2-4, -0": {"cde", "bytes 2-4/10"}, "bytes=1-2,1-2": {"bc", "bytes 1-2/10"}, "bytes=5-, -5, 0-4": {x.Body, "bytes 0-9/10"}} {
		checkFinished(t, get(ranges), x, impl.Response{Code: 206, Fields: with("content-range", want[1]), Body: want[0]})
	}
	// Several parts, in order whatever the order of the asks.
	kind := with("content-type", "multipart/byteranges; boundary="+boundaryBy(x))
	two := b + "\r\ncontent-range: bytes 0-1/10\r\n\r\nab\r\n" + b + "\r\ncontent-range: bytes 8-9/10\r\n\r\nij\r\n" + b + "--"
	for _, ranges := range []string{"bytes=0-1, -2", "bytes=-2, 0-1", "bytes=8-, 0-0, 1-1", "bytes=9-9, 0-1, 30-, 8-8", "bytes=,0-1,,8-99,"} {
		checkFinished(t, get(ranges), x, impl.Response{Code: 206, Fields: kind, Body: two})
	}
	six := ""
	for i, one := range []string{"a", "c", "e", "g"} {
		six += b + "\r\ncontent-range: bytes " + strconv.Itoa(2*i) + "-" + strconv.Itoa(2*i) + "/10\r\n\r\n" + one + "\r\n"
	}
	checkFinished(t, get("bytes=0-0,2-2,4-4,6-6"), x, impl.Response{Code: 206, Fields: kind, Body: six + b + "--"})
	// No parts.
	for _, ranges := range []string{"bytes=10-", "bytes=20-", "bytes=10-20", "bytes=-0", "bytes=-0, 10-, 99-100"} {
		checkFinished(t, get(ranges), x, impl.Response{Code: 416, Fields: append(shortLetters(), pairs("content-range", "bytes */10")...)})
		checkFinished(t, get(ranges, "if-range", `"v1"`, "if-match", "*"), x, impl.Response{Code: 416, Fields: append(shortLetters(), pairs("content-range", "bytes */10")...)})
	}
	// Ranges that cannot be read, and an if-range that does not hold.
	for _, ranges := range []string{"", "bytes=", "bytes=,", "bytes=a", "bytes=4-2", "bytes=2-4,x", "bits=2-4", "Bytes=2-4", "bytes 2-4", "bytes=2-4, bytes=6-7", "bytes=1-1,2-2,3-3,4-4,5-5,6-6,7-7"} {
		checkFinished(t, get(ranges), x, x)
	}
	checkFinished(t, request("GET", "h", "/", "range", "bytes=0-1", "range", "bytes=4-5"), x, x)
	checkFinished(t, request("GET", "h", "/", "range", "bytes=0-1", "range", "1-2"), x, impl.Response{Code: 206, Fields: with("content-range", "bytes 0-2/10"), Body: "abc"})
	for _, value := range []string{`"v2"`, `W/"v1"`, stamp(49), "", "x"} {
		checkFinished(t, get("bytes=2-4", "if-range", value), x, x)
		checkFinished(t, get("bytes=20-", "if-range", value), x, x)
		checkFinished(t, get("bytes=0-1,-2", "if-range", value), x, x)
	}
	for _, value := range []string{`"v1"`, stamp(50)} {
		checkFinished(t, get("bytes=2-4", "if-range", value), x, impl.Response{Code: 206, Fields: with("content-range", "bytes 2-4/10"), Body: "cde"})
	}
	// HEAD has no parts.
	for _, ranges := range []string{"bytes=2-4", "bytes=20-", "bytes=0-1,-2", "bytes="} {
		checkFinished(t, request("HEAD", "h", "/", "range", ranges), x, bare)
	}
	// An empty page has no bytes to ask for.
	for _, ranges := range []string{"bytes=0-", "bytes=0-0", "bytes=-1", "bytes=-0"} {
		checkFinished(t, get(ranges), answer(200, "", "a", "b"), answer(416, "", "content-range", "bytes */0"))
	}
	checkFinished(t, get("bytes=x"), answer(200, "", "a", "b"), answer(200, "", "a", "b"))
	// Boundaries of answers without a tag, and with two.
	for _, l := range [][]string{nil, {"etag", "\xff"}, {"etag", `"a"`, "etag", `"b"`}} {
		x := answer(200, "abc", l...)
		s := boundaryBy(x)
		want := impl.Response{Code: 206, Fields: append(pairs(l...), pairs("content-type", "multipart/byteranges; boundary="+s)...), Body: partsBy(s, 3, piece(0, "a"), piece(2, "c"))}
		checkFinished(t, get("bytes=0-0,2-"), x, want)
	}
	if s := boundaryBy(impl.Response{}); s != "006acfe9" {
		t.Errorf("the boundary of no tag is %q", s)
	}
}

// A body of several parts with MaxBody bytes is given, and the whole page instead of one with more.
func TestFinishAnswerWithManyBytes(t *testing.T) {
	page := pageText(600)
	x := answer(200, page, "etag", `"v1"`)
	sizes := map[int]int{}
	for last := range 590 {
		for _, ranges := range []string{fmt.Sprintf("bytes=0-%d, 595-", last), fmt.Sprintf("bytes=0-0,2-2,4-4,6-6,8-8,%d-", 599-last)} {
			r := request("GET", "h", "/", "range", ranges)
			want, _ := finishedBy(r, x)
			checkFinished(t, r, x, want)
			if want.Code == 206 {
				sizes[len(want.Body)]++
			} else {
				sizes[-1]++
			}
			got, ok := impl.FinishPieces(r, answer(200, "", "etag", `"v1"`), []impl.Piece{piece(0, page)}, 600)
			if !ok || !sameAnswer(got, want) {
				t.Errorf("FinishPieces(%q) = %#v, %v, want %#v", r, got, ok, want)
			}
		}
	}
	if sizes[599] == 0 || sizes[600] == 0 || sizes[601] != 0 || sizes[-1] == 0 {
		t.Errorf("parts with 599, 600, 601 bytes and too many: %d, %d, %d, %d", sizes[599], sizes[600], sizes[601], sizes[-1])
	}
}

// headers are ways to ask for a page of six bytes.
func headers() [][]string {
	l := [][]string{nil, {"if-none-match", `"v1"`}, {"if-match", `"v2"`}, {"range", "bytes=x"}}
	for _, ranges := range []string{"bytes=0-", "bytes=1-2", "bytes=-1", "bytes=9-", "bytes=0-0, 2-2", "bytes=0-1, 4-", "bytes=5-, 3-3, 0-1", "bytes=0-0,2-2,4-4", "bytes=1-3,3-4", "bytes=-0,9-"} {
		l = append(l, []string{"range", ranges}, []string{"range", ranges, "if-range", `"v1"`}, []string{"range", ranges, "if-range", `"v2"`})
	}
	return l
}

// What is served from pieces is what is served from the page: for all pieces of small pages, as far as they have the bytes.
func TestWhatIsServedFromPiecesIsWhatIsServedFromThePage(t *testing.T) {
	for length := range 7 {
		page := "--\r\n\xffz"[:length]
		full := answer(200, page, "date", stamp(60), "etag", `"v1"`, "x", "y")
		bare := answer(200, "", "date", stamp(60), "etag", `"v1"`, "x", "y")
		for set := range 1 << length {
			l := []impl.Piece{}
			for _, x := range runsOf(func(i int) bool { return i >= 0 && set>>i&1 == 1 }) {
				l = append(l, cut(page, x.From, x.To))
			}
			held, _ := heldBy(l)
			for _, fields := range headers() {
				for _, method := range []string{"GET", "HEAD"} {
					r := request(method, "h", "/", fields...)
					want, needs := finishedBy(r, full)
					needed, _ := heldBy(needs)
					enough := true
					for i := range needed {
						_, has := held[i]
						enough = enough && has
					}
					if !enough {
						want = impl.Response{}
					}
					got, ok := impl.FinishPieces(r, bare, l, length)
					if !sameAnswer(got, want) || ok != enough {
						t.Fatalf("FinishPieces(%q, %v, %d) = %#v, %v, want %#v, %v", r, l, length, got, ok, want, enough)
					}
					if whole := impl.FinishAnswer(r, full); ok && !sameAnswer(got, whole) {
						t.Fatalf("FinishAnswer(%q) = %#v, but of pieces %#v", r, whole, got)
					}
					// What has been served can be put into pieces again.
					if got.Code == 206 {
						checkPieces(t, got, length, needs...)
					}
				}
			}
		}
	}
}

func TestFinishPiecesOfWhatIsNone(t *testing.T) {
	get := request("GET", "h", "/")
	none := request("GET", "h", "/", "if-none-match", "*")
	one := []impl.Piece{piece(0, "ab")}
	long := strings.Repeat("b", 600)
	for _, x := range []struct {
		r      impl.Request
		x      impl.Response
		l      []impl.Piece
		length int
		want   impl.Response
	}{
		{get, answer(200, "", "a", "b"), one, 2, answer(200, "ab", "a", "b")}, {get, answer(200, ""), nil, 0, answer(200, "")}, {none, answer(200, ""), one, 2, answer(304, "")}, {none, answer(200, ""), nil, 600, answer(304, "")}, {get, answer(200, ""), []impl.Piece{piece(0, long)}, 600, answer(200, long)}, {request("HEAD", "h", "/"), answer(200, "", "a", "b"), nil, 10, answer(200, "", "a", "b")}, {request("GET", "h", "/", "range", "bytes=0-"), answer(200, ""), nil, 0, answer(416, "", "content-range", "bytes */0")}, {request("GET", "h", "/", "range", "bytes=1-"), answer(200, ""), one, 2, answer(206, "b", "content-range", "bytes 1-1/2")},
		// Lengths below 0 and above MaxBody, and pieces that are none.
		{get, answer(200, ""), nil, -1, impl.Response{}}, {none, answer(200, ""), nil, -1, impl.Response{}}, {none, answer(200, ""), nil, 601, impl.Response{}}, {none, answer(200, ""), nil, math.MinInt, impl.Response{}}, {none, answer(200, ""), nil, math.MaxInt, impl.Response{}}, {get, answer(200, ""), []impl.Piece{piece(0, long+"b")}, 601, impl.Response{}}, {get, answer(200, ""), one, 1, impl.Response{}}, {none, answer(200, ""), one, 1, impl.Response{}}, {none, answer(200, ""), []impl.Piece{piece(0, "")}, 2, impl.Response{}}, {none, answer(200, ""), []impl.Piece{piece(0, "a"), piece(1, "b")}, 2, impl.Response{}}, {get, answer(200, ""), []impl.Piece{piece(0, "ab"), piece(1, "b")}, 2, impl.Response{}}, {none, answer(200, ""), []impl.Piece{piece(2, "c"), piece(0, "a")}, 3, impl.Response{}}, {none, answer(200, ""), []impl.Piece{piece(-1, "ab")}, 2, impl.Response{}}, {none, answer(200, ""), singles(9), 100, impl.Response{}}, {none, answer(200, ""), singles(8), 100, answer(304, "")},
		// An answer that has a body, other codes and other methods.
		{get, answer(200, "ab"), one, 2, impl.Response{}}, {none, answer(200, "ab"), one, 2, impl.Response{}}, {request("HEAD", "h", "/"), answer(200, "x"), nil, 2, impl.Response{}}, {get, answer(206, ""), one, 2, impl.Response{}}, {get, answer(404, ""), one, 2, impl.Response{}}, {get, answer(201, ""), one, 2, impl.Response{}}, {get, impl.Response{}, one, 2, impl.Response{}}, {request("HEAD", "h", "/"), answer(404, ""), nil, 0, impl.Response{}}, {request("POST", "h", "/"), answer(200, ""), one, 2, impl.Response{}}, {request("get", "h", "/"), answer(200, ""), one, 2, impl.Response{}}, {request("", "h", "/"), answer(200, ""), one, 2, impl.Response{}},
		// Bytes that are missing.
		{get, answer(200, ""), one, 3, impl.Response{}}, {get, answer(200, ""), nil, 1, impl.Response{}}, {request("GET", "h", "/", "range", "bytes=1-2"), answer(200, ""), one, 3, impl.Response{}}, {request("GET", "h", "/", "range", "bytes=0-0,2-"), answer(200, ""), one, 3, impl.Response{}}, {request("GET", "h", "/", "range", "bytes=0-1,3-"), answer(200, ""), []impl.Piece{piece(1, "b"), piece(3, "d")}, 4, impl.Response{}},
	} {
		got, ok := impl.FinishPieces(x.r, x.x, x.l, x.length)
		if !sameAnswer(got, x.want) || ok != (x.want.Code != 0) {
			t.Errorf("FinishPieces(%q, %#v, %v, %d) = %#v, %v, want %#v", x.r, x.x, x.l, x.length, got, ok, x.want)
		}
	}
	// Several parts that are too long need the whole page; their own bytes are not enough.
	page := pageText(600)
	r := request("GET", "h", "/", "range", "bytes=0-289, 300-599")
	if got, ok := impl.FinishPieces(r, answer(200, ""), []impl.Piece{cut(page, 0, 290), cut(page, 300, 600)}, 600); ok || !sameAnswer(got, impl.Response{}) {
		t.Errorf("FinishPieces without the bytes between the parts = %#v, %v", got, ok)
	}
	if got, ok := impl.FinishPieces(r, answer(200, ""), []impl.Piece{piece(0, page)}, 600); !ok || !sameAnswer(got, answer(200, page)) {
		t.Errorf("FinishPieces of a whole page = %#v, %v", got, ok)
	}
}

func TestPiecesOfOnePart(t *testing.T) {
	long := strings.Repeat("b", 600)
	checkPieces(t, answer(206, "cde", "content-range", "bytes 2-4/10"), 10, piece(2, "cde"))
	checkPieces(t, answer(206, "abc", "content-range", "bytes 0-2/3", "etag", `"v1"`, "content-type", "x"), 3, piece(0, "abc"))
	checkPieces(t, answer(206, "\x00", "content-range", "bytes 599-599/600"), 600, piece(599, "\x00"))
	checkPieces(t, answer(206, long, "content-range", "bytes 0-599/600"), 600, piece(0, long))
	// Codes beside 206.
	for _, code := range []int{0, 200, 205, 207, 416, -206} {
		checkPieces(t, answer(code, "cde", "content-range", "bytes 2-4/10"), 0)
	}
	// Another number of bytes, no bytes, no place, two places, and a page that is too long.
	for _, place := range []string{"bytes 2-3/10", "bytes 2-5/10", "bytes */10", "bytes */3", "", "bytes 2-4", "bytes 4-2/10", "bytes 2-4/4", "bytes 02-4/10", "2-4/10", "bytes 2-4/601", "bytes 600-602/1000", "bytes 2-4/1000000000000", "bytes 999999999997-999999999999/1000000000000", "Bytes 2-4/10"} {
		checkPieces(t, answer(206, "cde", "content-range", place), 0)
	}
	checkPieces(t, answer(206, "cde", "content-range", "bytes 2-4/10", "content-range", "bytes 2-4/10"), 0)
	checkPieces(t, answer(206, "cde"), 0)
	checkPieces(t, answer(206, "cde", "Content-Range", "bytes 2-4/10"), 0)
	checkPieces(t, answer(206, "", "content-range", "bytes */10"), 0)
	checkPieces(t, answer(206, "", "content-range", "bytes */0"), 0)
	checkPieces(t, answer(206, "", "content-range", "bytes 0-0/1"), 0)
	checkPieces(t, answer(206, long+"b", "content-range", "bytes 0-600/601"), 0)
	checkPieces(t, impl.Response{}, 0)
}

// partsOf is an answer whose body is given, with the boundary of its tag.
func partsOf(body string) impl.Response {
	x := answer(206, body, "etag", `"v1"`)
	x.Fields = append(x.Fields, pairs("content-type", "multipart/byteranges; boundary="+boundaryBy(x))...)
	return x
}

func TestPiecesOfSeveralParts(t *testing.T) {
	s := boundaryBy(partsOf(""))
	ab, cd, gh := piece(0, "ab"), piece(3, "cd"), piece(7, "gh")
	// One in the form of several, and several; data that look like a boundary.
	for _, l := range [][]impl.Piece{{ab}, {gh}, {ab, cd}, {ab, cd, gh}, {cd, gh}, singles(5), {piece(0, "\r\n--"+s), piece(30, "\r\n\r\n--"+s+"--")}, {piece(0, "--"+s+"\r\n"+"content-range: bytes 0-1/9\r\n\r\n")}, {piece(5, "\r\n\r\n")}, singles(8)} {
		checkPieces(t, partsOf(partsBy(s, 100, l...)), 100, l...)
	}
	checkPieces(t, partsOf(partsBy(s, 9, ab, gh)), 9, ab, gh)
	checkPieces(t, partsOf(partsBy(s, 600, piece(598, "xy"))), 600, piece(598, "xy"))
	// A place beside the parts that has another number of bytes does not count.
	for _, place := range []string{"bytes 0-1/9", "bytes */9", "", "x"} {
		x := partsOf(partsBy(s, 9, ab, gh))
		x.Fields = append(x.Fields, pairs("content-range", place)...)
		checkPieces(t, x, 9, ab, gh)
	}
	x := partsOf(partsBy(s, 9, ab, gh))
	x.Fields = append(x.Fields, pairs("content-range", fmt.Sprintf("bytes 5-%d/600", 4+len(x.Body)))...)
	checkPieces(t, x, 600, piece(5, x.Body))
	x.Fields[len(x.Fields)-1].Value = fmt.Sprintf("bytes 5-%d/601", 4+len(x.Body))
	checkPieces(t, x, 0)
	// Parts in another order, twice, that touch or overlap, too many, without bytes, beyond the page.
	for _, l := range [][]impl.Piece{{gh, ab}, {ab, gh, cd}, {ab, ab}, {ab, piece(2, "c")}, {ab, piece(1, "bc")}, singles(9), {piece(8, "xy")}, {ab, piece(9, "x")}, {piece(2, "")}, {ab, piece(5, "")}} {
		checkPieces(t, partsOf(partsBy(s, 9, l...)), 0)
	}
	checkPieces(t, partsOf(partsBy(s, 601, ab)), 0)
	// No parts.
	for _, body := range []string{"", "--" + s + "--", "--" + s, "--", "\r\n--" + s + "--", "--" + s + "\r\n"} {
		checkPieces(t, partsOf(body), 0)
	}
	// Lengths that differ.
	head := func(place string) string { return "--" + s + "\r\ncontent-range: " + place + "\r\n\r\n" }
	end := "--" + s + "--"
	checkPieces(t, partsOf(head("bytes 0-0/9")+"a\r\n"+head("bytes 3-3/9")+"b\r\n"+end), 9, piece(0, "a"), piece(3, "b"))
	checkPieces(t, partsOf(head("bytes 0-0/9")+"a\r\n"+head("bytes 3-3/8")+"b\r\n"+end), 0)
	checkPieces(t, partsOf(head("bytes 0-0/8")+"a\r\n"+head("bytes 3-3/9")+"b\r\n"+end), 0)
	checkPieces(t, partsOf(head("bytes 0-0/9")+"a\r\n"+head("bytes 3-3/9")+"b\r\n"+head("bytes 5-5/7")+"c\r\n"+end), 0)
	// Places of no bytes, or that cannot be read, or of another number of bytes.
	for _, body := range []string{head("bytes */9") + "\r\n" + end, head("bytes 0-0/9") + "a\r\n" + head("bytes */9") + "\r\n" + end, head("bytes 0/9") + "a\r\n" + end, head("") + "\r\n" + end, head("bytes 00-0/9") + "a\r\n" + end, head("bytes 0-1/9") + "a\r\n" + end, head("bytes 0-0/9") + "ab\r\n" + end, head("bytes 0-5/9") + "a\r\n" + end, head("bytes 0-99999999/100000000") + "a\r\n" + end, head("bytes 0-0/9") + "a" + end, head("bytes 0-0/9") + "a\n" + end, head("bytes 0-0/9") + "a\r\n\r\n" + end,
		// A body that ends too early or goes on.
		head("bytes 0-0/9") + "a\r\n", head("bytes 0-0/9") + "a\r\n--" + s, head("bytes 0-0/9") + "a\r\n--" + s + "-", head("bytes 0-0/9") + "a\r\n" + end + "\r\n", head("bytes 0-0/9") + "a\r\n" + end + end, "x" + head("bytes 0-0/9") + "a\r\n" + end, head("bytes 0-0/9"), head("bytes 0-0/9") + "a", "\r\n" + head("bytes 0-0/9") + "a\r\n" + end, head("bytes 0-0/9") + "a\r\n" + end + head("bytes 3-3/9") + "a\r\n" + end,
	} {
		checkPieces(t, partsOf(body), 0)
	}
	// Other codes, and types that are not just as described.
	good := partsBy(s, 9, ab, gh)
	for _, code := range []int{200, 0, 416} {
		x := partsOf(good)
		x.Code = code
		checkPieces(t, x, 0)
	}
	for _, kind := range []string{"", "multipart/byteranges", "multipart/byteranges; boundary=", "multipart/byteranges;boundary=" + s, "multipart/byteranges; boundary=" + strings.ToUpper(s), "multipart/byteranges; boundary=\"" + s + "\"", "multipart/byteranges; boundary=00000000", "Multipart/byteranges; boundary=" + s, "multipart/byteranges; boundary=" + s + " ", "multipart/mixed; boundary=" + s, "a, multipart/byteranges; boundary=" + s} {
		checkPieces(t, answer(206, good, "etag", `"v1"`, "content-type", kind), 0)
	}
	kind := "multipart/byteranges; boundary=" + s
	checkPieces(t, answer(206, good, "etag", `"v1"`), 0)
	checkPieces(t, answer(206, good, "etag", `"v1"`, "content-type", kind, "content-type", kind), 0)
	checkPieces(t, answer(206, good, "etag", `"v1"`, "content-type", "a", "content-type", kind), 0)
	checkPieces(t, answer(206, good, "content-type", kind, "etag", `"v1"`, "a", "b"), 9, ab, gh)
	// A boundary that is not that of the answer's tag.
	for _, etag := range []string{`"v2"`, `W/"v1"`, "", `"v1"x`} {
		checkPieces(t, answer(206, good, "etag", etag, "content-type", kind), 0)
	}
	checkPieces(t, answer(206, good, "content-type", kind), 0)
	checkPieces(t, answer(206, good, "etag", `"v1"`, "etag", `"v1"`, "content-type", kind), 0)
	other := boundaryBy(impl.Response{})
	checkPieces(t, answer(206, partsBy(other, 9, ab), "content-type", "multipart/byteranges; boundary="+other), 9, ab)
	checkPieces(t, answer(206, partsBy(other, 9, ab), "etag", `"v1"`, "content-type", kind), 0)
	checkPieces(t, answer(206, partsBy(s, 9, ab)+partsBy(other, 9, gh), "etag", `"v1"`, "content-type", kind), 0)
}

func TestPiecesOfAgainstWhatIsWritten(t *testing.T) {
	check := func(x impl.Response) {
		t.Helper()
		want, wantLength, wantOK := piecesBy(x)
		if got, n, ok := impl.PiecesOf(x); !slices.Equal(got, want) || n != wantLength || ok != wantOK {
			t.Fatalf("PiecesOf(%#v) = %v, %d, %v, want %v, %d, %v", x, got, n, ok, want, wantLength, wantOK)
		}
	}
	s := boundaryBy(partsOf(""))
	variantsOf(partsBy(s, 12, piece(1, "a"), piece(10, "k")), func(body string) { check(partsOf(body)) })
	variantsOf("bytes 2-4/10", func(place string) { check(answer(206, "cde", "content-range", place)) })
	variantsOf("multipart/byteranges; boundary="+s, func(kind string) {
		check(answer(206, partsBy(s, 9, piece(0, "a")), "etag", `"v1"`, "content-type", kind))
	})
	for from := range 12 {
		for to := range 14 {
			for length := range 13 {
				check(answer(206, "abc", "content-range", fmt.Sprintf("bytes %d-%d/%d", from, to, length)))
				check(partsOf(fmt.Sprintf("--%s\r\ncontent-range: bytes %d-%d/%d\r\n\r\nabc\r\n--%s--", s, from, to, length, s)))
			}
		}
	}
	check(partsOf(strings.Repeat("--"+s+"\r\n", 3000)))
	check(partsOf(partsBy(s, 600, singles(300)...)))
}

func TestFinishedAnswersShareNoMemory(t *testing.T) {
	room := impl.Field{Name: "date", Value: "room"}
	x := letters()
	for _, l := range append(headers(), []string{"if-none-match", "*"}) {
		for _, method := range []string{"GET", "HEAD", "POST"} {
			checkNewMemory(t, "FinishAnswer", x.Fields, room, func(all []impl.Field) []impl.Field {
				return impl.FinishAnswer(request(method, "h", "/", l...), impl.Response{Code: 200, Fields: all, Body: x.Body}).Fields
			})
			checkNewMemory(t, "FinishPieces", x.Fields, room, func(all []impl.Field) []impl.Field {
				got, _ := impl.FinishPieces(request(method, "h", "/", l...), impl.Response{Code: 200, Fields: all}, []impl.Piece{piece(0, x.Body)}, 10)
				return got.Fields
			})
			checkNewMemory(t, "FinishPieces", pairs(l...), room, func(all []impl.Field) []impl.Field {
				r := impl.Request{Method: method, Host: "h", Target: "/", Fields: all}
				got, _ := impl.FinishPieces(r, impl.Response{Code: 200}, []impl.Piece{piece(0, x.Body)}, 10)
				return append(got.Fields, impl.FinishAnswer(r, x).Fields...)
			})
		}
	}
	checkNewMemory(t, "FinishPieces", []impl.Piece{piece(0, "ab"), piece(4, "ef")}, piece(9, "room"), func(l []impl.Piece) []string {
		a, _ := impl.FinishPieces(request("GET", "h", "/", "range", "bytes=0-1, 4-"), impl.Response{Code: 200}, l, 6)
		b, _ := impl.FinishPieces(request("GET", "h", "/"), impl.Response{Code: 200}, l, 6)
		return []string{a.Body, b.Body}
	})
	for _, x := range []impl.Response{partsOf(partsBy(boundaryBy(partsOf("")), 9, piece(0, "a"), piece(7, "b"))), answer(206, "a", "content-range", "bytes 0-0/1"), answer(206, "a")} {
		checkNewMemory(t, "PiecesOf", x.Fields, room, func(l []impl.Field) []impl.Piece {
			got, _, _ := impl.PiecesOf(impl.Response{Code: x.Code, Fields: l, Body: x.Body})
			return got
		})
	}
}
