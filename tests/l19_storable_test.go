package tests

import (
	"slices"
	"strings"
	"testing"

	"loop.example/g03012/impl"
)

// ruledBy tells whether the rules of a message have one of the names.
func ruledBy(l []impl.Field, names ...string) bool {
	value, _ := valuesBy(l, "cache-control")
	return slices.ContainsFunc(directivesBy(value), func(d impl.Directive) bool { return slices.Contains(names, d.Name) })
}

// storableBy looks for the first condition that does not hold.
func storableBy(r impl.Request, x impl.Response) bool {
	value := func(l []impl.Field, name string) string {
		s, _ := valuesBy(l, name)
		return s
	}
	_, hasExpires := valuesBy(x.Fields, "expires")
	_, hasUser := valuesBy(r.Fields, "authorization")
	_, goodTarget := normalBy(r.Target)
	_, goodDate := dateOf(value(x.Fields, "date"))
	_, goodChange := dateOf(value(x.Fields, "last-modified"))
	_, any := varyBy(x.Fields)
	tag, goodTag := tagBy(value(x.Fields, "etag"))
	_, _, goodPieces := piecesBy(x)
	used := ruledBy(x.Fields, "s-maxage", "max-age", "public") || hasExpires
	switch {
	case r.Method != "GET" || !impl.IsRequest(r) || !goodTarget || !impl.IsResponse(x) || !goodDate:
		return false
	case ruledBy(r.Fields, "no-store") || ruledBy(x.Fields, "no-store", "private") || any:
		return false
	case hasUser && !ruledBy(x.Fields, "public", "s-maxage", "must-revalidate"):
		return false
	case x.Code == 200:
		return used || goodChange
	case x.Code == 206:
		return goodTag && !tag.Weak && goodPieces
	}
	return used && (x.Code == 404 || x.Code == 410)
}

func checkStore(t *testing.T, r impl.Request, x impl.Response, want bool) {
	t.Helper()
	if got := impl.MayStore(r, x); got != want {
		t.Errorf("MayStore(%q, %#v) = %v", r, x, got)
	}
	if by := storableBy(r, x); by != want {
		t.Errorf("%q and %#v should give %v, want %v", r, x, by, want)
	}
}

// fresh is an answer that may be stored, with more fields.
func fresh(code int, control string, more ...string) impl.Response {
	return answer(code, "body", append([]string{"date", stamp(60), "cache-control", control}, more...)...)
}

func TestMayStoreByRequest(t *testing.T) {
	good := fresh(200, "max-age=5")
	long := "/" + strings.Repeat("t", 99)
	for _, x := range []struct {
		r    impl.Request
		want bool
	}{
		{request("GET", "h", "/a"), true}, {request("GET", "h.example", "/a/../b?c&%62"), true}, {request("GET", "h", long), true}, {request("GET", "h", "/", "range", "bytes=0-1", "if-none-match", "*", "cookie", "c", "cache-control", "no-cache"), true}, {impl.Request{Method: "GET", Host: "h", Target: "/", Fields: manyFields(23)}, true},
		// Methods beside GET.
		{request("HEAD", "h", "/a"), false}, {request("POST", "h", "/a"), false}, {request("OPTIONS", "h", "/a"), false}, {request("get", "h", "/a"), false}, {request("GETS", "h", "/a"), false}, {request("", "h", "/a"), false},
		// Requests without a key.
		{request("GET", "", "/a"), false}, {request("GET", "H", "/a"), false}, {request("GET", "h", ""), false}, {request("GET", "h", "a"), false}, {request("GET", "h", "/%"), false}, {request("GET", "h", "/?%4"), false}, {request("GET", "h", long+"t"), false}, {request("GET", "h", "/", "host", "h"), false}, {request("GET", "h", "/", "A", "1"), false}, {impl.Request{Method: "GET", Host: "h", Target: "/", Fields: manyFields(24)}, false}, {impl.Request{}, false},
		// Its rules.
		{request("GET", "h", "/", "cache-control", "no-store"), false}, {request("GET", "h", "/", "cache-control", "No-Store"), false}, {request("GET", "h", "/", "cache-control", "max-age=0, no-store=\"a\""), false}, {request("GET", "h", "/", "cache-control", "a", "cache-control", "no-store"), false}, {request("GET", "h", "/", "cache-control", "x=\"no-store\", no-stor, no-stores"), true}, {request("GET", "h", "/", "cache-control", "private, max-age=0, only-if-cached"), true}, {request("GET", "h", "/", "pragma", "no-store", "cache-contro", "no-store"), true},
	} {
		checkStore(t, x.r, good, x.want)
		checkStore(t, x.r, fresh(200, "no-store"), false)
	}
}

func TestMayStoreByAnswer(t *testing.T) {
	get := request("GET", "h", "/")
	long := strings.Repeat("b", 600)
	for _, x := range []struct {
		x    impl.Response
		want bool
	}{
		{fresh(200, "public"), true}, {impl.Response{Code: 200, Fields: fresh(200, "public").Fields, Body: long}, true},
		// Answers that are not valid.
		{impl.Response{Code: 200, Fields: fresh(200, "public").Fields, Body: long + "b"}, false}, {fresh(200, "public", "content-length", "4"), false}, {fresh(200, "public", "A", "1"), false}, {fresh(200, "public", "a", " 1"), false}, {impl.Response{Code: 200, Fields: append(manyFields(21), fresh(200, "public").Fields...)}, true}, {impl.Response{Code: 200, Fields: append(manyFields(22), fresh(200, "public").Fields...)}, false}, {impl.Response{}, false},
		// No date, one that cannot be read, one in another form, two.
		{answer(200, "", "cache-control", "public"), false}, {answer(200, "", "cache-control", "public", "date", ""), false}, {answer(200, "", "cache-control", "public", "date", "60"), false}, {answer(200, "", "cache-control", "public", "date", "Thu, 01 Jan 1970 00:01:60 GMT"), false}, {answer(200, "", "cache-control", "public", "date", dateAs(longForm, 60)), true}, {answer(200, "", "cache-control", "public", "date", dateAs(plainForm, 60)), true}, {answer(200, "", "cache-control", "public", "date", stamp(60), "date", stamp(60)), false}, {answer(200, "", "cache-control", "public", "last-modified", stamp(60), "expires", stamp(60)), false},
		// Rules that forbid it, in capital letters and with values.
		{fresh(200, "public, no-store"), false}, {fresh(200, "No-Store, max-age=5"), false}, {fresh(200, "max-age=5, private"), false}, {fresh(200, "PRIVATE, public"), false}, {fresh(200, "public, private=\"set-cookie\""), false}, {fresh(200, "public, private=x"), false}, {fresh(200, "public", "cache-control", "private"), false}, {fresh(200, "public", "cache-control", "no-store=1"), false}, {fresh(200, "public, x=\"private, no-store\", privat, no-stores"), true}, {fresh(200, "public, private="), true}, {fresh(200, "public, no-cache, must-revalidate"), true},
		// Fields by which it was chosen.
		{fresh(200, "public", "vary", "a, b"), true}, {fresh(200, "public", "vary", ""), true}, {fresh(200, "public", "vary", "*"), false}, {fresh(200, "public", "vary", "a", "vary", "b, *"), false}, {fresh(200, "public", "vary", "a*, \"*\""), true}, {fresh(200, "public", "Vary", "*"), false}, {fresh(200, "public", "varies", "*"), true},
	} {
		checkStore(t, get, x.x, x.want)
		checkStore(t, request("HEAD", "h", "/"), x.x, false)
	}
}

func TestMayStoreByCode(t *testing.T) {
	get := request("GET", "h", "/")
	for code := -1; code < 610; code++ {
		checkStore(t, get, fresh(code, "max-age=5", "expires", stamp(90), "last-modified", stamp(50), "etag", `"v1"`), code == 200 || code == 404 || code == 410)
	}
	for _, x := range []struct {
		control string
		more    []string
		page    bool
		none    bool
	}{
		// What allows it: with each rule and each field, and with none.
		{"max-age=5", nil, true, true}, {"s-maxage=5", nil, true, true}, {"public", nil, true, true}, {"x", []string{"expires", stamp(90)}, true, true}, {"x", []string{"last-modified", stamp(50)}, true, false}, {"x", nil, false, false}, {"", nil, false, false},
		// Capital letters, values of any kind, and none.
		{"MAX-AGE=5", nil, true, true}, {"S-MaxAge", nil, true, true}, {"Public=1", nil, true, true}, {"max-age", nil, true, true}, {"max-age=x", nil, true, true}, {"s-maxage=\"0\"", nil, true, true}, {"a, b, public", nil, true, true}, {"max-age=", nil, false, false}, {"x=public", nil, false, false}, {"x=\"max-age=5, public\"", nil, false, false}, {"maxage=5", nil, false, false}, {"must-revalidate, no-cache", nil, false, false}, {"stale-while-revalidate=5", nil, false, false},
		// An expires that is empty or no date, and a time of change that is none.
		{"x", []string{"expires", ""}, true, true}, {"x", []string{"expires", "0"}, true, true}, {"x", []string{"Expires", "0"}, false, false}, {"x", []string{"expire", stamp(90)}, false, false}, {"x", []string{"last-modified", ""}, false, false}, {"x", []string{"last-modified", "yesterday"}, false, false}, {"x", []string{"last-modified", stamp(50), "last-modified", stamp(50)}, false, false}, {"x", []string{"last-modified", dateAs(plainForm, 50)}, true, false}, {"x", []string{"last-modified", "", "expires", ""}, true, true}, {"x", []string{"etag", `"v1"`}, false, false},
	} {
		valid := !slices.Contains(x.more, "Expires")
		checkStore(t, get, fresh(200, x.control, x.more...), x.page && valid)
		checkStore(t, get, fresh(404, x.control, x.more...), x.none && valid)
		checkStore(t, get, fresh(410, x.control, x.more...), x.none && valid)
		checkStore(t, get, fresh(206, x.control, x.more...), false)
		checkStore(t, get, fresh(500, x.control, x.more...), false)
	}
}

func TestMayStoreOfParts(t *testing.T) {
	get := request("GET", "h", "/", "range", "bytes=0-3")
	place := "bytes 0-3/10"
	for _, x := range []struct {
		x    impl.Response
		want bool
	}{
		{fresh(206, "x", "etag", `"v1"`, "content-range", place), true}, {answer(206, "body", "date", stamp(60), "etag", `""`, "content-range", place), true}, {fresh(206, "max-age=5", "content-range", place, "etag", `"v1"`), true},
		// A weak tag, none, one that cannot be read, two.
		{fresh(206, "public", "etag", `W/"v1"`, "content-range", place), false}, {fresh(206, "public", "content-range", place), false}, {fresh(206, "public", "etag", "v1", "content-range", place), false}, {fresh(206, "public", "etag", "", "content-range", place), false}, {fresh(206, "public", "etag", `"v1"`, "etag", `"v1"`, "content-range", place), false},
		// Pieces that cannot be read.
		{fresh(206, "public", "etag", `"v1"`), false}, {fresh(206, "public", "etag", `"v1"`, "content-range", "bytes 0-2/10"), false}, {fresh(206, "public", "etag", `"v1"`, "content-range", "bytes */10"), false}, {fresh(206, "public", "etag", `"v1"`, "content-range", "bytes 0-3/601"), false}, {fresh(206, "public", "etag", `"v1"`, "content-type", "multipart/byteranges; boundary=x"), false},
		// Other reasons count as for other codes.
		{fresh(206, "no-store", "etag", `"v1"`, "content-range", place), false}, {fresh(206, "private", "etag", `"v1"`, "content-range", place), false}, {fresh(206, "x", "etag", `"v1"`, "content-range", place, "vary", "*"), false}, {answer(206, "body", "etag", `"v1"`, "content-range", place), false},
	} {
		checkStore(t, get, x.x, x.want)
		checkStore(t, request("GET", "h", "/", "cache-control", "no-store"), x.x, false)
	}
	s := partsOf(partsBy(boundaryBy(partsOf("")), 9, piece(0, "a"), piece(7, "b")))
	s.Fields = append(s.Fields, pairs("date", stamp(60))...)
	checkStore(t, get, s, true)
	s.Body += "\r\n"
	checkStore(t, get, s, false)
}

func TestMayStoreWithAuthorization(t *testing.T) {
	for _, user := range []string{"u", "", "Bearer x y", "*"} {
		r := request("GET", "h", "/", "a", "b", "authorization", user)
		for control, want := range map[string]bool{"public": true, "s-maxage=5": true, "must-revalidate, max-age=5": true, "Public": true, "S-MAXAGE=0": true, "max-age=5, Must-Revalidate=x": true, "max-age=5": false, "max-age=5, no-cache": false, "max-age=5, proxy-revalidate": false, "max-age=5, x=\"public\"": false, "max-age=5, publics": false, "": false, "public, private": false, "s-maxage=5, no-store": false} {
			checkStore(t, r, fresh(200, control), want)
			checkStore(t, r, fresh(404, control), want)
			checkStore(t, r, fresh(206, control, "etag", `"v1"`, "content-range", "bytes 0-3/10"), want)
		}
		// With must-revalidate alone, it has to say how long it is fresh.
		checkStore(t, r, fresh(200, "must-revalidate"), false)
		checkStore(t, r, fresh(200, "must-revalidate", "last-modified", stamp(50)), true)
		checkStore(t, r, fresh(404, "must-revalidate", "last-modified", stamp(50)), false)
		checkStore(t, r, fresh(404, "must-revalidate", "expires", ""), true)
		checkStore(t, r, fresh(200, "max-age=5", "expires", stamp(90), "last-modified", stamp(50)), false)
	}
	checkStore(t, request("GET", "h", "/", "authorizations", "u", "cache-control", "public"), fresh(200, "max-age=5"), true)
	checkStore(t, request("GET", "h", "/", "authorization", "u", "cache-control", "public"), fresh(200, "max-age=5"), false)
	checkStore(t, request("GET", "h", "/", "authorization", "u", "authorization", "v"), fresh(200, "max-age=5"), false)
}

// Each condition with each other: requests, rules of the answer, and its fields.
func TestMayStoreAgainstTheConditions(t *testing.T) {
	requests := []impl.Request{request("GET", "h", "/"), request("HEAD", "h", "/"), request("GET", "h", "/%"), request("GET", "h", "/", "authorization", ""), request("GET", "h", "/", "cache-control", "no-store"), request("GET", "h", "/", "authorization", "u", "cache-control", "no-cache")}
	rules := []string{"no-store", "private", "public", "s-maxage=1", "max-age", "must-revalidate", "x"}
	fields := [][]string{{"date", stamp(60)}, {"expires", ""}, {"last-modified", stamp(5)}, {"vary", "*"}, {"etag", `"v1"`}, {"content-range", "bytes 2-3/9"}}
	for set := range 1 << len(fields) {
		l := []string{}
		for i, f := range fields {
			if set>>i&1 == 1 {
				l = append(l, f...)
			}
		}
		for some := range 1 << len(rules) {
			control := []string{}
			for i, rule := range rules {
				if some>>i&1 == 1 {
					control = append(control, rule)
				}
			}
			for _, code := range []int{200, 206, 404, 410, 301, 500} {
				x := answer(code, "ab", append([]string{"cache-control", strings.Join(control, ", ")}, l...)...)
				for _, r := range requests {
					if got, want := impl.MayStore(r, x), storableBy(r, x); got != want {
						t.Fatalf("MayStore(%q, %#v) = %v", r, x, got)
					}
				}
			}
		}
	}
}

// Nothing private is stored: no page that is for its visitor, nor an answer to somebody unless it is for all.
func TestNothingPrivateIsStored(t *testing.T) {
	o := site()
	for i := range o.Resources {
		for _, control := range []string{"", "max-age=20", "public, s-maxage=5", "no-store", "must-revalidate"} {
			o.Resources[i].Control = control
			p := o.Resources[i]
			for _, l := range [][]string{nil, {"authorization", "u"}, {"authorization", "u v"}, {"accept-language", "en"}, {"range", "bytes=0-1"}, {"range", "bytes=0-0,2-", "authorization", ""}} {
				for now := range 62 {
					r := request("GET", "h", p.Target, l...)
					x := impl.FinishAnswer(r, impl.PlainAnswer(o, r, now))
					_, known := impl.GetField(r.Fields, "authorization")
					stored := impl.MayStore(r, x)
					none := x.Code == 404 || x.Code == 410
					if stored && !none && (p.Private || known && control != "public, s-maxage=5" && control != "must-revalidate") {
						t.Fatalf("the answer %#v to %q is stored", x, r)
					}
					if want := !p.Private && !known && control != "no-store" || none && !known; stored != want && !known {
						t.Fatalf("MayStore(%q, %#v) = %v", r, x, stored)
					}
				}
			}
		}
	}
}

func TestMayStoreSharesNoMemory(t *testing.T) {
	room := impl.Field{Name: "vary", Value: "*"}
	l := pairs("date", stamp(60), "cache-control", "public, max-age=5", "vary", "a", "etag", `"v1"`, "content-range", "bytes 0-0/1", "content-type", "x")
	for _, code := range []int{200, 206, 404} {
		checkNewMemory(t, "MayStore", l, room, func(l []impl.Field) []bool {
			r := impl.Request{Method: "GET", Host: "h", Target: "/", Fields: l[:5]}
			return []bool{impl.MayStore(r, impl.Response{Code: code, Fields: l, Body: "b"})}
		})
	}
}
