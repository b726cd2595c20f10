package tests

import (
	"math"
	"reflect"
	"slices"
	"strconv"
	"strings"
	"testing"

	"loop.example/g03012/impl"
)

// stamp is a time as a message has it.
func stamp(t int) string {
	return dateAs(firstForm, t)
}

// plainBy writes the answer field by field, for pages, hosts and times that are good.
func plainBy(o impl.Origin, r impl.Request, t int) impl.Response {
	if r.Method != "GET" && r.Method != "HEAD" {
		return answer(405, "method", "date", stamp(t), "cache-control", "no-store")
	}
	target, _ := normalBy(r.Target)
	i := slices.IndexFunc(o.Resources, func(p impl.Resource) bool { return p.Target == target })
	k := -1
	if i >= 0 {
		for n, v := range o.Resources[i].Versions {
			if v.At <= t {
				k = n
			}
		}
	}
	if k < 0 {
		return answer(404, "none", "date", stamp(t), "cache-control", "max-age=10")
	}
	p := o.Resources[i]
	v := p.Versions[k]
	if v.Gone {
		return answer(410, "gone", "date", stamp(t), "cache-control", "max-age=10")
	}
	likes, _ := valuesBy(r.Fields, "accept-language")
	lang, visitor, body := impl.ChooseName(p.Langs, likes), "", v.Text
	if u := selectingBy(r, "authorization"); p.Private && impl.IsToken(u) && len(u) <= 20 {
		visitor = u
	}
	texts := []string{"date", stamp(t), "last-modified", stamp(v.At), "etag", `"` + strconv.Itoa(k) + "/" + lang + "/" + visitor + `"`}
	if p.Private || p.Control != "" {
		control := strings.TrimSuffix("private, "+p.Control, ", ")
		if !p.Private {
			control = p.Control
		}
		texts = append(texts, "cache-control", control)
	}
	if p.Private || lang != "" {
		both := "accept-language, authorization"
		if lang == "" {
			both = both[17:]
		} else if !p.Private {
			both = both[:15]
		}
		texts = append(texts, "vary", both)
	}
	if lang != "" {
		texts = append(texts, "content-language", lang)
		body = "[" + lang + "]" + body
	}
	if p.Keys != "" {
		texts = append(texts, "surrogate-key", p.Keys)
	}
	if visitor != "" {
		body = visitor + ": " + body
	}
	return answer(200, body, texts...)
}

func checkPlain(t *testing.T, o impl.Origin, r impl.Request, now int, want impl.Response) {
	t.Helper()
	if got := impl.PlainAnswer(o, r, now); !sameAnswer(got, want) {
		t.Errorf("PlainAnswer(%q, %d) = %#v, want %#v", r, now, got, want)
	}
}

func TestTagOf(t *testing.T) {
	long := strings.Repeat("x", 50)
	for _, x := range []struct {
		k       int
		lang    string
		visitor string
		want    string
	}{
		{0, "", "", "0//"}, {3, "de", "u", "3/de/u"}, {7, "", "u1", "7//u1"}, {12, "en", "", "12/en/"}, {-1, "", "", "-1//"}, {math.MinInt, "a", "b", "-9223372036854775808/a/b"}, {math.MaxInt, "", "", "9223372036854775807//"},
		// Parts are taken as they are.
		{1, "/", "/", "1////"}, {1, "v", "l", "1/v/l"}, {1, "u", "v/l/u", "1/u/v/l/u"}, {1, "DE", "\"U\" ", "1/DE/\"U\" "}, {1, "\xff", "\x00ü", "1/\xff/\x00ü"}, {1, long, long, "1/" + long + "/" + long},
	} {
		if got := impl.TagOf(x.k, x.lang, x.visitor); got != strong(x.want) {
			t.Errorf("TagOf(%d, %q, %q) = %+v, want %q", x.k, x.lang, x.visitor, got, x.want)
		}
	}
	for k := range 300 {
		if got := impl.TagOf(k-100, "l", "v"); got != strong(strconv.Itoa(k-100)+"/l/v") {
			t.Errorf("TagOf(%d) = %+v", k-100, got)
		}
	}
}

func TestBodyOf(t *testing.T) {
	for _, x := range []struct {
		text, lang, visitor, want string
	}{
		{"", "", "", ""}, {"t", "", "", "t"}, {"t", "de", "", "[de]t"}, {"t", "", "u", "u: t"}, {"t", "de", "u", "u: [de]t"}, {"", "de", "", "[de]"}, {"", "", "u", "u: "}, {"", "de", "u", "u: [de]"}, {" t ", " ", " ", " : [ ] t "}, {"[x]", "[", "]", "]: [[][x]"}, {"\xff", "\x00", "ü", "ü: [\x00]\xff"},
	} {
		for _, v := range []impl.Version{version(0, x.text), version(-5, x.text), {At: 9, Text: x.text, Gone: true}} {
			if got := impl.BodyOf(v, x.lang, x.visitor); got != x.want {
				t.Errorf("BodyOf(%+v, %q, %q) = %q, want %q", v, x.lang, x.visitor, got, x.want)
			}
		}
	}
}

func TestControlOf(t *testing.T) {
	for control, want := range map[string]string{"": "private", "max-age=5": "private, max-age=5", "private": "private, private", "no-store, public": "private, no-store, public", " ": "private,  ", ",": "private, ,", "\"a, b\"": "private, \"a, b\""} {
		if got := impl.ControlOf(impl.Resource{Control: control, Private: true}); got != want {
			t.Errorf("ControlOf a private page with %q = %q, want %q", control, got, want)
		}
		if got := impl.ControlOf(impl.Resource{Control: control, Keys: "k", Langs: []string{"de"}}); got != control {
			t.Errorf("ControlOf a page with %q = %q", control, got)
		}
	}
}

func TestPlainAnswerOfEachKind(t *testing.T) {
	o := site()
	// A page in just one language is chosen by it, too.
	o.Resources = append(o.Resources, page("/one"))
	o.Resources[len(o.Resources)-1].Langs = []string{"de"}
	day := "Thu, 01 Jan 1970 00:00:"
	both := []string{"accept-language", "fr;q=0.5, DE", "authorization", "u1"}
	for _, x := range []struct {
		r    impl.Request
		now  int
		want impl.Response
	}{
		{request("GET", "h", "/a"), 10, answer(200, "one", "date", day+"10 GMT", "last-modified", day+"05 GMT", "etag", "\"0//\"", "cache-control", "max-age=20", "surrogate-key", "k1 k2")},
		{request("GET", "h", "/a", both...), 55, answer(200, "three", "date", day+"55 GMT", "last-modified", day+"50 GMT", "etag", "\"1//\"", "cache-control", "max-age=20", "surrogate-key", "k1 k2")},
		{request("GET", "h", "/l"), 0, answer(200, "[de]text", "date", day+"00 GMT", "last-modified", day+"00 GMT", "etag", "\"0/de/\"", "vary", "accept-language", "content-language", "de")},
		{request("HEAD", "h", "/l", "accept-language", "en"), 10, answer(200, "[en]text", "date", day+"10 GMT", "last-modified", day+"00 GMT", "etag", "\"0/en/\"", "vary", "accept-language", "content-language", "en")},
		{request("GET", "h", "/m"), 10, answer(200, "text", "date", day+"10 GMT", "last-modified", day+"00 GMT", "etag", "\"0//\"", "cache-control", "private", "vary", "authorization")},
		{request("GET", "h", "/m", "authorization", "u1"), 10, answer(200, "u1: text", "date", day+"10 GMT", "last-modified", day+"00 GMT", "etag", "\"0//u1\"", "cache-control", "private", "vary", "authorization")},
		{request("GET", "h", "/m", "authorization", "u 1"), 10, answer(200, "text", "date", day+"10 GMT", "last-modified", day+"00 GMT", "etag", "\"0//\"", "cache-control", "private", "vary", "authorization")},
		{request("GET", "h", "/lm?y&x", both...), 59, answer(200, "u1: [de]both", "date", day+"59 GMT", "last-modified", day+"07 GMT", "etag", "\"0/de/u1\"", "cache-control", "private, max-age=20", "vary", "accept-language, authorization", "content-language", "de", "surrogate-key", "k1")},
		{request("HEAD", "h", "/lm?x&y"), 59, answer(200, "[en]both", "date", day+"59 GMT", "last-modified", day+"07 GMT", "etag", "\"0/en/\"", "cache-control", "private, max-age=20", "vary", "accept-language, authorization", "content-language", "en", "surrogate-key", "k1")},
		{request("GET", "h", "/one", "accept-language", "en"), 10, answer(200, "[de]text", "date", day+"10 GMT", "last-modified", day+"00 GMT", "etag", "\"0/de/\"", "cache-control", "max-age=20", "vary", "accept-language", "content-language", "de")},
		// A page that is not there yet, that is gone and that comes back.
		{request("GET", "h", "/a"), 4, answer(404, "none", "date", day+"04 GMT", "cache-control", "max-age=10")},
		{request("HEAD", "h", "/none"), 9, answer(404, "none", "date", day+"09 GMT", "cache-control", "max-age=10")},
		{request("GET", "h", "/lm"), 9, answer(404, "none", "date", day+"09 GMT", "cache-control", "max-age=10")},
		{request("GET", "h", "/gone"), 9, answer(404, "none", "date", day+"09 GMT", "cache-control", "max-age=10")},
		{request("GET", "h", "/gone"), 19, answer(200, "first", "date", day+"19 GMT", "last-modified", day+"10 GMT", "etag", "\"0//\"", "cache-control", "max-age=20")},
		{request("GET", "h", "/gone", both...), 20, answer(410, "gone", "date", day+"20 GMT", "cache-control", "max-age=10")},
		{request("HEAD", "h", "/gone"), 29, answer(410, "gone", "date", day+"29 GMT", "cache-control", "max-age=10")},
		{request("GET", "h", "/gone"), 30, answer(200, "again", "date", day+"30 GMT", "last-modified", day+"30 GMT", "etag", "\"2//\"", "cache-control", "max-age=20")},
		// Methods beside GET and HEAD, with and without a page.
		{request("POST", "h", "/a"), 10, answer(405, "method", "date", day+"10 GMT", "cache-control", "no-store")},
		{request("OPTIONS", "h", "/none"), 0, answer(405, "method", "date", day+"00 GMT", "cache-control", "no-store")},
		{request("GETS", "h", "/gone"), 20, answer(405, "method", "date", day+"20 GMT", "cache-control", "no-store")},
		{request("HEAD", "h", "/a"), impl.MaxTime, answer(200, "three", "date", "Thu, 31 Dec 2099 23:59:59 GMT", "last-modified", day+"50 GMT", "etag", "\"1//\"", "cache-control", "max-age=20", "surrogate-key", "k1 k2")},
	} {
		checkPlain(t, o, x.r, x.now, x.want)
		checkPlain(t, o, x.r, x.now, plainBy(o, x.r, x.now))
	}
}

// Each reason for 400, alone and together with each of the others, also for methods and pages that have answers of their own.
func TestPlainAnswerToWhatIsBad(t *testing.T) {
	bad := answer(400, "bad", "cache-control", "no-store")
	reasons := []func(*impl.Origin, *impl.Request, *int){
		func(o *impl.Origin, _ *impl.Request, _ *int) { o.Resources = append(o.Resources, page("/x?")) },
		func(o *impl.Origin, _ *impl.Request, _ *int) { o.Resources = append(o.Resources, o.Resources[0]) },
		func(o *impl.Origin, r *impl.Request, _ *int) { o.Host, r.Host = "", "" },
		func(_ *impl.Origin, r *impl.Request, _ *int) { r.Method = "get" },
		func(_ *impl.Origin, r *impl.Request, _ *int) { r.Method = "" },
		func(_ *impl.Origin, r *impl.Request, _ *int) { r.Fields = append(r.Fields, pairs("A", "1")...) },
		func(_ *impl.Origin, r *impl.Request, _ *int) { r.Fields = append(r.Fields, pairs("host", "h")...) },
		func(_ *impl.Origin, r *impl.Request, _ *int) { r.Fields = manyFields(24) },
		func(_ *impl.Origin, r *impl.Request, _ *int) { r.Target = "a" },
		func(_ *impl.Origin, r *impl.Request, _ *int) { r.Target = "" },
		func(_ *impl.Origin, r *impl.Request, _ *int) { r.Target = "/a b" },
		func(_ *impl.Origin, r *impl.Request, _ *int) { r.Target = "/" + strings.Repeat("a/", 60) },
		func(_ *impl.Origin, r *impl.Request, _ *int) { r.Target = "/%" },
		func(_ *impl.Origin, r *impl.Request, _ *int) { r.Target = "/a?%4" },
		func(_ *impl.Origin, r *impl.Request, _ *int) { r.Host = "i" },
		func(_ *impl.Origin, r *impl.Request, _ *int) { r.Host = "H" },
		func(_ *impl.Origin, _ *impl.Request, now *int) { *now = -1 },
		func(_ *impl.Origin, _ *impl.Request, now *int) { *now = impl.MaxTime + 1 },
		func(_ *impl.Origin, _ *impl.Request, now *int) { *now = math.MinInt },
		func(_ *impl.Origin, _ *impl.Request, now *int) { *now = math.MaxInt },
	}
	for _, first := range []impl.Request{request("GET", "h", "/a"), request("POST", "h", "/a"), request("HEAD", "h", "/none"), request("GET", "h", "/gone"), request("DELETE", "h", "/none")} {
		if impl.PlainAnswer(site(), first, 25).Code == 400 {
			t.Errorf("PlainAnswer(%q) is bad", first)
		}
		for _, one := range reasons {
			for _, two := range reasons {
				o, r, now := site(), first, 25
				one(&o, &r, &now)
				checkPlain(t, o, r, now, bad)
				two(&o, &r, &now)
				checkPlain(t, o, r, now, bad)
			}
		}
	}
	checkPlain(t, impl.Origin{}, impl.Request{}, 0, bad)
	checkPlain(t, originOf(), request("GET", "h", "/"), 0, answer(404, "none", "date", stamp(0), "cache-control", "max-age=10"))
}

// Many requests at many times, also for targets that are written in other ways.
func TestPlainAnswerAgainstAnotherWay(t *testing.T) {
	o := site()
	fields := [][]string{nil, {"accept-language", "en"}, {"accept-language", "fr, de"}, {"accept-language", "de;q=0", "accept-language", "en;q=0.1"}, {"accept-language", "xx"}, {"accept-language", ""}, {"authorization", "u"}, {"authorization", "u", "authorization", "v"}, {"authorization", strings.Repeat("u", 20)}, {"authorization", strings.Repeat("u", 21)}, {"authorization", ""}, {"accept-language", "en", "authorization", "u", "range", "bytes=0-1", "if-match", "\"x\"", "cache-control", "no-cache"}}
	times := []int{0, 1, 4, 5, 6, 7, 9, 10, 19, 20, 29, 30, 31, 49, 50, 51, 86400, 1700000000, impl.MaxTime}
	targets := []string{"/none", "/", "/%2F", "/A", "/lm?x"}
	for _, p := range o.Resources {
		targets = append(append(targets, p.Target), otherWays(p.Target)...)
	}
	for _, target := range targets {
		for _, l := range fields {
			for _, method := range []string{"GET", "HEAD", "PUT"} {
				r := request(method, "h", target, l...)
				for _, now := range times {
					checkPlain(t, o, r, now, plainBy(o, r, now))
				}
			}
		}
	}
	for _, p := range []impl.Resource{{Target: "/", Versions: someTimes(8)}, {Target: "/", Langs: []string{"de"}, Versions: someTimes(2)}, {Target: "/", Langs: []string{"de"}, Private: true, Keys: "k", Versions: someTimes(2)}, {Target: "/", Private: true, Langs: []string{"12345678", "b", "c", "*d"}, Keys: "a b c d", Control: strings.Repeat("c", 150), Versions: []impl.Version{version(0, strings.Repeat("v", 400))}}} {
		for now := range 90 {
			for _, l := range fields {
				r := request("GET", "h", "/", l...)
				checkPlain(t, originOf(p), r, now, plainBy(originOf(p), r, now))
				if x := impl.PlainAnswer(originOf(p), r, now); !impl.IsResponse(x) {
					t.Errorf("PlainAnswer(%q) = %#v is not valid", r, x)
				}
			}
		}
	}
}

// What an answer does not name has no part in it: other pages, later versions, other fields, and how the target and the selecting fields are written.
func TestPlainAnswersDependOnNothingThatTheyDoNotName(t *testing.T) {
	o := site()
	likes := [][]string{nil, {"accept-language", "en, de;q=0.5"}, {"accept-language", "en ,, de;q=0.5\t,"}, {"accept-language", "en", "accept-language", "de;q=0.5"}, {"accept-language", "fr"}, {"authorization", "u"}, {"authorization", "u ,,"}, {"authorization", "v"}, {"accept-language", "en, de;q=0.5", "authorization", "u"}}
	for k, p := range o.Resources {
		for _, now := range []int{0, 8, 15, 25, 35, 60} {
			for _, l := range likes {
				r := request("GET", "h", p.Target, l...)
				x := impl.PlainAnswer(o, r, now)
				names, _ := impl.VaryOf(x.Fields)
				for _, other := range likes {
					q := request("GET", "h", p.Target, other...)
					if impl.Agrees(q, impl.SelectingOf(r, names)) {
						checkPlain(t, o, q, now, x)
					}
				}
				q := request("HEAD", "h", p.Target, append([]string{"a", "1", "if-none-match", "*", "range", "bytes=0-0", "cookie", "c"}, l...)...)
				checkPlain(t, o, q, now, x)
				// Other pages change, and this one later.
				changed := copyBy(o)
				for i := range changed.Resources {
					if i != k {
						changed.Resources[i] = page("/other"+strconv.Itoa(i), version(3, "other"))
					}
				}
				changed.Resources[k].Versions = append(changed.Resources[k].Versions, version(61, "later"))
				checkPlain(t, changed, r, now, x)
				checkPlain(t, originOf(o.Resources[k]), r, now, x)
				slices.Reverse(changed.Resources)
				checkPlain(t, changed, r, now, x)
				for _, target := range otherWays(p.Target) {
					checkPlain(t, o, request("GET", "h", target, l...), now, x)
				}
				if x.Code != 200 {
					continue
				}
				// The tag tells versions and variants apart: the same tag, the same body.
				tag, _ := impl.GetField(x.Fields, "etag")
				for _, other := range likes {
					for then := range 60 {
						y := impl.PlainAnswer(o, request("GET", "h", p.Target, other...), then)
						if same, _ := impl.GetField(y.Fields, "etag"); same == tag && y.Body != x.Body {
							t.Errorf("two bodies with the tag %q: %q and %q", tag, x.Body, y.Body)
						}
					}
				}
			}
		}
	}
}

func TestPlainAnswersShareNoMemory(t *testing.T) {
	room := impl.Field{Name: "room", Value: "room"}
	o := roomyOrigin(site())
	kept := stretched(o)
	for _, target := range []string{"/a", "/lm?x&y", "/none", "/gone", "/%"} {
		for _, method := range []string{"GET", "POST"} {
			checkNewMemory(t, "PlainAnswer", pairs("accept-language", "en", "authorization", "u"), room, func(l []impl.Field) []impl.Field {
				return impl.PlainAnswer(o, impl.Request{Method: method, Host: "h", Target: target, Fields: l}, 25).Fields
			})
		}
	}
	for _, p := range o.Resources {
		impl.ControlOf(p)
	}
	if !reflect.DeepEqual(stretched(o), kept) {
		t.Error("PlainAnswer changes its argument")
	}
}
