package tests

import (
	"slices"
	"strconv"
	"strings"
	"testing"

	"loop.example/g03012/impl"
)

// conditionsBy follows the rules one by one.
func conditionsBy(r impl.Request, x impl.Response) int {
	reads := r.Method == "GET" || r.Method == "HEAD"
	lists := func(name string, weakly bool) bool {
		value, _ := valuesBy(r.Fields, name)
		tags, all, ok := tagListBy(value)
		own, _ := valuesBy(x.Fields, "etag")
		tag, has := tagBy(own)
		return ok && (all || has && slices.ContainsFunc(tags, func(t impl.Tag) bool {
			return t.Text == tag.Text && (weakly || !t.Weak && !tag.Weak)
		}))
	}
	later := func(name string) (bool, bool) {
		value, _ := valuesBy(r.Fields, name)
		limit, ok := dateOf(value)
		own, _ := valuesBy(x.Fields, "last-modified")
		change, has := dateOf(own)
		return ok && has && change > limit, ok && has && change <= limit
	}
	_, hasMatch := valuesBy(r.Fields, "if-match")
	_, hasNone := valuesBy(r.Fields, "if-none-match")
	changed, _ := later("if-unmodified-since")
	_, same := later("if-modified-since")
	if hasMatch && !lists("if-match", false) || !hasMatch && changed {
		return 412
	}
	if hasNone && lists("if-none-match", true) {
		if reads {
			return 304
		}
		return 412
	}
	if !hasNone && reads && same {
		return 304
	}
	return 200
}

func rangeHoldsBy(r impl.Request, x impl.Response) bool {
	value, has := valuesBy(r.Fields, "if-range")
	if !has {
		return true
	}
	own, _ := valuesBy(x.Fields, "etag")
	if _, ok := tagBy(value); ok {
		return own == value && !strings.HasPrefix(value, "W/")
	}
	change, _ := valuesBy(x.Fields, "last-modified")
	a, isDate := dateOf(value)
	b, has := dateOf(change)
	return isDate && has && a == b
}

// madeAt50 is an answer with the tag "v1" that was changed at the time 50.
func madeAt50() impl.Response {
	return answer(200, "body", "etag", `"v1"`, "last-modified", stamp(50))
}

func checkCondition(t *testing.T, x impl.Response, method string, want int, fields ...string) {
	t.Helper()
	r := request(method, "h", "/", fields...)
	if got := impl.CheckConditions(r, x); got != want {
		t.Errorf("CheckConditions(%s %q, %q) = %d, want %d", method, r.Fields, x.Fields, got, want)
	}
	if by := conditionsBy(r, x); by != want {
		t.Errorf("the rules give %d for %s %q and %q, want %d", by, method, r.Fields, x.Fields, want)
	}
}

func TestCodesOfConditions(t *testing.T) {
	if impl.GoOn != 200 || impl.NotModified != 304 || impl.Failed != 412 {
		t.Error(impl.GoOn, impl.NotModified, impl.Failed)
	}
	for _, method := range []string{"GET", "HEAD", "POST", ""} {
		checkCondition(t, madeAt50(), method, 200)
		checkCondition(t, impl.Response{}, method, 200)
		checkCondition(t, madeAt50(), method, 200, "range", "bytes=0-1", "if-range", `"v2"`, "If-Match", `"v2"`, "if-none-matches", "*", "IF-NONE-MATCH", "*", "etag", `"v1"`)
	}
}

func TestIfMatch(t *testing.T) {
	for value, want := range map[string]int{
		"*": 200, " * ": 200, `"v1"`: 200, ` "v1" ,`: 200, `"v2", "v1"`: 200, `"v1", "v2"`: 200, `"a", W/"v1", "v1"`: 200,
		`W/"v1"`: 412, `"v2"`: 412, `"v2", "v3"`: 412, `W/"v1", "v2"`: 412, `"V1"`: 412, `"v1 "`: 412, `""`: 412, `"v"`: 412, `"v11"`: 412,
		// A list that cannot be read, and an empty one.
		"": 412, ",": 412, "v1": 412, `"v1", v2`: 412, `"v1", *`: 412, "*, *": 412, `"v1`: 412, `"v1"x`: 412, strings.Repeat(`"v1", `, 8): 200, strings.Repeat(`"v1", `, 9): 412,
	} {
		for _, method := range []string{"GET", "HEAD", "POST", "get"} {
			checkCondition(t, madeAt50(), method, want, "if-match", value)
			// The date beside it does not count.
			checkCondition(t, madeAt50(), method, want, "if-unmodified-since", stamp(49), "if-match", value)
		}
	}
	// A field that stands twice.
	checkCondition(t, madeAt50(), "GET", 200, "if-match", `"v2"`, "if-match", `"v1"`)
	checkCondition(t, madeAt50(), "GET", 412, "if-match", "*", "if-match", `"v1"`)
	checkCondition(t, madeAt50(), "GET", 412, "if-match", "*", "if-match", "*")
	checkCondition(t, madeAt50(), "GET", 412, "if-match", `"v1"`, "if-match", "x")
	// Answers without a tag, with a weak one, and with one that cannot be read.
	for _, etag := range [][]string{nil, {"etag", `W/"v1"`}, {"etag", ""}, {"etag", "v1"}, {"etag", `"v1`}, {"etag", "*"}, {"etag", `"v1"`, "etag", `"v1"`}, {"ETag", `"v1"`}, {"etag", `w/"v1"`}} {
		x := answer(200, "", etag...)
		checkCondition(t, x, "GET", 200, "if-match", "*")
		checkCondition(t, x, "GET", 412, "if-match", `"v1"`)
		checkCondition(t, x, "GET", 412, "if-match", `W/"v1"`)
		checkCondition(t, x, "GET", 412, "if-match", `""`)
		checkCondition(t, x, "GET", 412, "if-match", "")
	}
	checkCondition(t, answer(200, "", "etag", `""`), "GET", 200, "if-match", `""`)
}

func TestIfUnmodifiedSince(t *testing.T) {
	for value, want := range map[string]int{
		stamp(49): 412, stamp(0): 412, stamp(50): 200, stamp(51): 200, stamp(impl.MaxTime): 200,
		dateAs(longForm, 49): 412, dateAs(plainForm, 49): 412, dateAs(longForm, 50): 200, dateAs(plainForm, 50): 200,
		// A date that cannot be read.
		"": 200, "0": 200, "49": 200, "Thu, 01 Jan 1970 00:00:49": 200, "thu, 01 Jan 1970 00:00:49 GMT": 200, "Fri, 01 Jan 1970 00:00:49 GMT": 200, stamp(49) + ", " + stamp(49): 200, `"v2"`: 200, "*": 200,
	} {
		for _, method := range []string{"GET", "HEAD", "POST"} {
			checkCondition(t, madeAt50(), method, want, "if-unmodified-since", value)
			// An answer without a time of change, or with one that cannot be read.
			for _, change := range [][]string{nil, {"last-modified", ""}, {"last-modified", "50"}, {"last-modified", stamp(50), "last-modified", stamp(50)}, {"date", stamp(50)}, {"Last-Modified", stamp(50)}} {
				checkCondition(t, answer(200, "", change...), method, 200, "if-unmodified-since", value)
			}
		}
	}
	checkCondition(t, madeAt50(), "GET", 200, "if-unmodified-since", stamp(49), "if-unmodified-since", stamp(49))
	checkCondition(t, madeAt50(), "GET", 412, "if-unmodified-since", stamp(49), "if-unmodified-sinc", stamp(60))
	checkCondition(t, answer(200, "", "last-modified", dateAs(plainForm, 50)), "GET", 412, "if-unmodified-since", dateAs(longForm, 49))
	checkCondition(t, answer(200, "", "last-modified", stamp(0)), "GET", 200, "if-unmodified-since", stamp(0))
}

func TestIfNoneMatch(t *testing.T) {
	for value, same := range map[string]bool{
		"*": true, " * ": true, `"v1"`: true, `W/"v1"`: true, `"v2", "v1"`: true, `W/"v1", "v2"`: true, ` ,"v1" ,`: true,
		`"v2"`: false, `"v2", W/"v3"`: false, `"V1"`: false, `""`: false, "": false, "v1": false, `"v1", v2`: false, `"v1", *`: false, "*, *": false, `"v1`: false, `w/"v1"`: false, strings.Repeat(`"v1", `, 8): true, strings.Repeat(`"v1", `, 9): false,
	} {
		for method, told := range map[string]int{"GET": 304, "HEAD": 304, "POST": 412, "PUT": 412, "OPTIONS": 412, "get": 412, "": 412} {
			want := 200
			if same {
				want = told
			}
			checkCondition(t, madeAt50(), method, want, "if-none-match", value)
			// The date beside it does not count, whatever it is.
			for _, t2 := range []int{49, 50, 51} {
				checkCondition(t, madeAt50(), method, want, "if-modified-since", stamp(t2), "if-none-match", value)
			}
			// A weak tag of the answer is the same as well.
			checkCondition(t, answer(200, "", "etag", `W/"v1"`), method, want, "if-none-match", value)
		}
	}
	checkCondition(t, madeAt50(), "GET", 304, "if-none-match", `"v2"`, "if-none-match", `"v1"`)
	checkCondition(t, madeAt50(), "GET", 200, "if-none-match", "*", "if-none-match", `"v1"`)
	for _, etag := range [][]string{nil, {"etag", ""}, {"etag", "v1"}, {"etag", `"v1`}, {"etag", "*"}, {"etag", `"v1"`, "etag", `"v1"`}} {
		x := answer(200, "", append(etag, "last-modified", stamp(50))...)
		checkCondition(t, x, "GET", 304, "if-none-match", "*")
		checkCondition(t, x, "POST", 412, "if-none-match", "*")
		checkCondition(t, x, "GET", 200, "if-none-match", `"v1"`, "if-modified-since", stamp(50))
		checkCondition(t, x, "GET", 200, "if-none-match", `""`)
		checkCondition(t, x, "GET", 200, "if-none-match", "")
	}
}

func TestIfModifiedSince(t *testing.T) {
	for value, same := range map[string]bool{
		stamp(49): false, stamp(0): false, stamp(50): true, stamp(51): true, stamp(impl.MaxTime): true, dateAs(longForm, 50): true, dateAs(plainForm, 50): true, dateAs(longForm, 49): false, dateAs(plainForm, 49): false,
		"": false, "0": false, "50": false, "Thu, 01 Jan 1970 00:00:50": false, "Fri, 01 Jan 1970 00:00:50 GMT": false, stamp(50) + ", " + stamp(50): false, `"v1"`: false, "*": false,
	} {
		for _, method := range []string{"GET", "HEAD", "POST", "PUT", "head"} {
			want := 200
			if same && (method == "GET" || method == "HEAD") {
				want = 304
			}
			checkCondition(t, madeAt50(), method, want, "if-modified-since", value)
			for _, change := range [][]string{nil, {"last-modified", ""}, {"last-modified", "50"}, {"last-modified", stamp(50), "last-modified", stamp(50)}, {"date", stamp(50)}} {
				checkCondition(t, answer(200, "", append(change, "etag", `"v1"`)...), method, 200, "if-modified-since", value)
			}
		}
	}
	checkCondition(t, madeAt50(), "GET", 200, "if-modified-since", stamp(50), "if-modified-since", stamp(50))
	checkCondition(t, answer(200, "", "last-modified", stamp(0)), "GET", 304, "if-modified-since", stamp(0))
}

// All fields together, in each order of the rules, for answers of each kind.
func TestConditionsAgainstTheRules(t *testing.T) {
	lists := []string{"-", "", "*", `"v1"`, `W/"v1"`, `"v2"`, `"v2", "v1"`, "v1"}
	dates := []string{"-", "", stamp(49), stamp(50), stamp(51), "soon"}
	answers := []impl.Response{madeAt50(), {}, answer(200, "", "etag", `W/"v1"`, "last-modified", stamp(50)), answer(404, "", "etag", `"v1"`), answer(200, "", "last-modified", stamp(50)), answer(200, "", "etag", "v1", "last-modified", "50"), answer(200, "", "last-modified", stamp(51), "etag", `"v2"`)}
	for _, match := range lists {
		for _, none := range lists {
			for _, unmodified := range dates {
				for _, modified := range dates {
					fields := pairs("if-modified-since", modified, "if-none-match", none, "if-unmodified-since", unmodified, "if-match", match)
					fields = slices.DeleteFunc(fields, func(f impl.Field) bool { return f.Value == "-" })
					for _, method := range []string{"GET", "HEAD", "DELETE"} {
						r := impl.Request{Method: method, Host: "h", Target: "/", Fields: fields}
						for _, x := range answers {
							if got, want := impl.CheckConditions(r, x), conditionsBy(r, x); got != want {
								t.Fatalf("CheckConditions(%s %q, %q) = %d, want %d", method, fields, x.Fields, got, want)
							}
						}
					}
				}
			}
		}
	}
}

func TestRangeHolds(t *testing.T) {
	if !impl.RangeHolds(impl.Request{}, impl.Response{}) || !impl.RangeHolds(request("GET", "h", "/", "range", "bytes=0-1", "If-Range", "x"), madeAt50()) {
		t.Error("RangeHolds of no if-range")
	}
	answers := []impl.Response{madeAt50(), {}, answer(200, "", "etag", `W/"v1"`, "last-modified", stamp(49)), answer(200, "", "etag", `""`), answer(200, "", "etag", "v1", "last-modified", "50"), answer(200, "", "last-modified", stamp(51)), answer(200, "", "etag", stamp(50), "last-modified", `"v1"`), answer(200, "", "etag", `"v1"`, "etag", `"v1"`), answer(206, "", "last-modified", stamp(50), "last-modified", stamp(50)), answer(200, "", "last-modified", dateAs(plainForm, 50)), answer(200, "", "last-modified", stamp(0))}
	for value, want := range map[string]string{
		// A tag, a weak one and another one.
		`"v1"`: "0", `W/"v1"`: "", `"v2"`: "", `""`: "3", `W/""`: "", `"V1"`: "",
		// The date of the change and other dates.
		stamp(50): "09", stamp(49): "2", stamp(51): "5", stamp(0): "A", dateAs(longForm, 50): "09", dateAs(plainForm, 50): "09", dateAs(plainForm, 51): "5", dateAs(longForm, 52): "", stamp(impl.MaxTime): "",
		// Texts that are neither.
		"": "", "*": "", "v1": "", "50": "", `"v1", "v1"`: "", `"v1`: "", `w/"v1"`: "", "Thu, 01 Jan 1970": "", stamp(50) + ", " + stamp(50): "", `"v1", "v2"`: "", ",": "",
	} {
		for _, method := range []string{"GET", "POST"} {
			r := request(method, "h", "/", "a", "1", "if-range", value)
			got, by := "", ""
			for i, x := range answers {
				digit := strings.ToUpper(strconv.FormatInt(int64(i), 16))
				if impl.RangeHolds(r, x) {
					got += digit
				}
				if rangeHoldsBy(r, x) {
					by += digit
				}
			}
			if got != want || by != want {
				t.Errorf("RangeHolds for %q of the answers %q, want %q, by the rules %q", value, got, want, by)
			}
		}
	}
	for _, l := range [][]string{{"if-range", `"v1"`, "if-range", `"v1"`}, {"if-range", `"v1"`, "if-range", ""}, {"if-range", "", "if-range", stamp(50)}, {"if-range", stamp(50), "if-range", stamp(50)}} {
		if impl.RangeHolds(request("GET", "h", "/", l...), madeAt50()) {
			t.Errorf("RangeHolds(%q) = true", l)
		}
	}
	variantsOf(`"v1"`, func(s string) {
		if r := request("GET", "h", "/", "if-range", s); impl.RangeHolds(r, madeAt50()) != rangeHoldsBy(r, madeAt50()) {
			t.Errorf("RangeHolds for %q = %v", s, !rangeHoldsBy(r, madeAt50()))
		}
	})
}

// Who has the page is told so: with its tag or its time of change, until it changes.
func TestWhoHasThePageIsToldSo(t *testing.T) {
	for _, p := range site().Resources {
		for _, lang := range []string{"de", "en"} {
			plain := request("GET", "h", p.Target, "accept-language", lang, "authorization", "u")
			for then := range 62 {
				for now := then; now < 62; now++ {
					had, x := impl.PlainAnswer(site(), plain, then), impl.PlainAnswer(site(), plain, now)
					if had.Code == 200 && x.Code == 200 {
						checkTold(t, plain, had, x)
					}
				}
			}
		}
	}
}

// checkTold looks what somebody is told who had an answer and asks when there is another one, which may be the same.
func checkTold(t *testing.T, plain impl.Request, had impl.Response, x impl.Response) {
	t.Helper()
	tag, _ := impl.GetField(had.Fields, "etag")
	change, _ := impl.GetField(had.Fields, "last-modified")
	same := had.Body == x.Body
	for _, c := range []struct {
		name, value string
		ifSame      int
		ifNot       int
	}{
		{"if-none-match", tag, 304, 200}, {"if-none-match", `"x", W/` + tag, 304, 200}, {"if-modified-since", change, 304, 200}, {"if-match", tag, 200, 412}, {"if-match", `"x", ` + tag, 200, 412}, {"if-unmodified-since", change, 200, 412}, {"if-range", tag, 200, 200}, {"if-range", change, 200, 200},
	} {
		want := c.ifNot
		if same {
			want = c.ifSame
		}
		for _, method := range []string{"GET", "HEAD"} {
			r := impl.Request{Method: method, Host: "h", Target: plain.Target, Fields: append(pairs(c.name, c.value), plain.Fields...)}
			if got := impl.CheckConditions(r, x); got != want {
				t.Fatalf("CheckConditions(%q, %q) = %d, want %d", r, x.Fields, got, want)
			}
			if got := impl.RangeHolds(r, x); c.name == "if-range" && got != same {
				t.Fatalf("RangeHolds(%q, %q) = %v", r, x.Fields, got)
			}
		}
	}
}

func TestConditionsShareNoMemory(t *testing.T) {
	room := impl.Field{Name: "if-none-match", Value: "*"}
	l := pairs("if-match", `"v1"`, "if-none-match", `"v2"`, "if-unmodified-since", stamp(60), "if-modified-since", stamp(60), "if-range", `"v1"`, "etag", `"v1"`, "last-modified", stamp(50))
	checkNewMemory(t, "CheckConditions", l, room, func(l []impl.Field) []int {
		return []int{impl.CheckConditions(impl.Request{Method: "GET", Fields: l}, impl.Response{Fields: l})}
	})
	checkNewMemory(t, "RangeHolds", l, room, func(l []impl.Field) []bool {
		return []bool{impl.RangeHolds(impl.Request{Method: "GET", Fields: l}, impl.Response{Fields: l})}
	})
}
