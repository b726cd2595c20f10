package tests

import (
	"math"
	"slices"
	"strconv"
	"strings"
	"testing"

	"loop.example/g03012/impl"
)

func isHonestBy(o impl.Origin, g impl.Given) bool {
	value, hasField := valuesBy(g.Response.Fields, "date")
	date, hasDate := dateOf(value)
	switch {
	case !hasField:
		return slices.Contains([]int{400, 403, 431, 502, 504}, g.Response.Code)
	case !hasDate || date > g.At || ageBy(g.Response) != g.At-date:
		return false
	}
	return sameAnswer(stripped(g.Response), impl.FinishAnswer(g.Request, impl.PlainAnswer(o, g.Request, date)))
}

func isAskedBy(g impl.Given) bool {
	value, _ := valuesBy(g.Response.Fields, "date")
	limit := limitBy(g.Request.Fields, "max-age", math.MaxInt)
	if ruledBy(g.Request.Fields, "no-cache") {
		limit = 0
	}
	_, hasDate := dateOf(value)
	return !hasDate || ageBy(g.Response) <= limit
}

func isBoundBy(g impl.Given) bool {
	value, _ := valuesBy(g.Response.Fields, "date")
	rules, end := g.Response.Fields, math.MaxInt
	if ruledBy(rules, "must-revalidate", "proxy-revalidate") {
		end = limitBy(rules, "max-age", end)
	}
	end = limitBy(rules, "s-maxage", end)
	if ruledBy(rules, "no-cache") {
		end = 0
	}
	_, hasDate := dateOf(value)
	return !hasDate || ageBy(g.Response) < max(end, 1)
}

func isAfterBy(w impl.World, g impl.Given) bool {
	value, _ := valuesBy(g.Response.Fields, "date")
	date, hasDate := dateOf(value)
	stampField, _ := valuesBy(g.Response.Fields, "x-purge")
	stamp, isStamp := numberBy(stampField, 0)
	if !isStamp || strconv.Itoa(stamp) != stampField {
		stamp = 0
	}
	for _, p := range g.Known {
		early := slices.ContainsFunc(w.Issued, func(x impl.Issue) bool { return x.Purge.Seq == p.Seq && date < x.At })
		concerns := hitBy([]impl.Purge{{Seq: 1, Kind: p.Kind, Text: p.Text}}, keyBy(g.Request), g.Response.Fields, 0)
		if hasDate && concerns && (stamp < p.Seq || early) {
			return false
		}
	}
	return true
}

func faultBy(w impl.World) string {
	for _, g := range w.Given {
		faults := []string{}
		for name, holds := range map[string]bool{"1 honest": isHonestBy(w.Net.Origin, g), "2 asked": isAskedBy(g), "3 bound": isBoundBy(g), "4 purge": isAfterBy(w, g)} {
			if !holds {
				faults = append(faults, name)
			}
		}
		if len(faults) > 0 {
			return slices.Min(faults)[2:]
		}
	}
	if !isWorldBy(w) {
		return "state"
	}
	return ""
}

func checkGiven(t *testing.T, what string, want bool, got bool, by bool) {
	t.Helper()
	if got != want || by != want {
		t.Errorf("%s: %v, in another way %v, want %v", what, got, by, want)
	}
}

// checkFault looks for the fault of a world, in two ways.
func checkFault(t *testing.T, what string, w impl.World, want string) {
	t.Helper()
	if got := impl.FaultOf(w); got != want || faultBy(w) != want {
		t.Errorf("%s: the fault is %q, in another way %q, want %q", what, got, faultBy(w), want)
	}
}

// givenFor is an answer that a node gave at a time to a request for a page of the shop: the origin gave it at its date, and has issued so many purges.
func givenFor(r impl.Request, date int, now int, seq int) impl.Given {
	x := impl.FinishAnswer(r, impl.PlainAnswer(shop(), r, date))
	x.Fields = append(x.Fields, pairs("age", strconv.Itoa(now-date), "x-purge", strconv.Itoa(seq))...)
	return impl.Given{Node: 0, Request: r, Response: x, At: now}
}

func TestStripAnswer(t *testing.T) {
	for _, x := range []struct{ l, want []string }{
		{nil, nil}, {[]string{"age", "5"}, nil}, {[]string{"x-purge", "5"}, nil}, {[]string{"date", "d"}, []string{"date", "d"}}, {[]string{"a", "1", "age", "5", "b", "2", "x-purge", "3", "c", "3"}, []string{"a", "1", "b", "2", "c", "3"}}, {[]string{"age", "", "age", "5", "x-purge", "", "a", "", "age", "x", "x-purge", "9"}, []string{"a", ""}}, {[]string{"Age", "5", "X-Purge", "3", "ages", "1", "purge", "2", "content-range", "bytes */5"}, []string{"Age", "5", "X-Purge", "3", "ages", "1", "purge", "2", "content-range", "bytes */5"}},
	} {
		for _, code := range []int{200, 504, -7} {
			if got := impl.StripAnswer(answer(code, "body", x.l...)); !sameAnswer(got, answer(code, "body", x.want...)) {
				t.Errorf("StripAnswer of %q = %#v", x.l, got)
			}
		}
	}
}

func TestIsHonest(t *testing.T) {
	check := func(what string, want bool, g impl.Given) {
		t.Helper()
		checkGiven(t, "IsHonest of "+what, want, impl.IsHonest(shop(), g), isHonestBy(shop(), g))
	}
	// Answers of nodes alone.
	for code := 199; code < 601; code++ {
		alone := slices.Contains([]int{400, 403, 431, 502, 504}, code)
		check("an answer without a date", alone, impl.Given{Request: get("/a"), Response: answer(code, "x", "cache-control", "no-store"), At: 10})
		check("an answer of nothing else", alone, impl.Given{Response: answer(code, "", "age", "7"), At: -5})
		for _, date := range []string{"", "x", stamp(10), stamp(9), stamp(11), "0"} {
			check("an answer with the date "+date, false, impl.Given{Request: get("/a"), Response: answer(code, "x", "cache-control", "no-store", "date", date), At: 10})
		}
		check("an answer with two dates", false, impl.Given{Request: get("/a"), Response: answer(code, "one", "date", stamp(10), "date", stamp(10)), At: 10})
	}
	// What the origin gave, of each kind: not with another age, time, code, body or field.
	for _, r := range []impl.Request{get("/a"), head("/a"), get("/a", "range", "bytes=1-"), get("/long", "range", "bytes=0-0, 5-9"), get("/a", "range", "bytes=9-"), get("/a", "if-none-match", `"0//"`), get("/a", "if-match", `"9//"`), get("/none"), get("/gone"), request("POST", "h", "/a"), get("/l", "accept-language", "en"), get("/m", "authorization", "u"), get("/x/../a"), get("/q?y&x"), get("/always"), get("/never")} {
		for _, age := range []int{0, 1, 13} {
			g := givenFor(r, 20, 20+age, 3)
			check("what the origin gave", true, g)
			for _, more := range []int{-2, -1, 1, 2, impl.Forever} {
				bad := copied(g)
				bad.Response = impl.WithAge(g.Response, max(age+more, 0))
				check("an age that is another one", age+more < 0 && age == 0, bad)
				bad = copied(g)
				bad.At += more
				check("another time", false, bad)
			}
			for i, f := range g.Response.Fields {
				bad := copied(g)
				bad.Response.Fields = slices.Delete(bad.Response.Fields, i, i+1)
				// Without an age it is 0, and the number of purges is no matter.
				check("no field "+f.Name, f.Name == "x-purge" || f.Name == "age" && age == 0, bad)
				bad = copied(g)
				bad.Response.Fields[i].Value += "x"
				check("another "+f.Name, f.Name == "x-purge" || f.Name == "age" && age == 0, bad)
				bad = copied(g)
				bad.Response.Fields[i].Name += "x"
				check("another name than "+f.Name, false, bad)
				if i > 0 {
					bad = copied(g)
					bad.Response.Fields[i], bad.Response.Fields[i-1] = bad.Response.Fields[i-1], bad.Response.Fields[i]
					moves := func(f impl.Field) bool { return f.Name == "age" || f.Name == "x-purge" }
					check("fields in another order", moves(bad.Response.Fields[i]) || moves(bad.Response.Fields[i-1]), bad)
				}
			}
			bad := copied(g)
			bad.Response.Fields = append(bad.Response.Fields, pairs("a", "b")...)
			check("one field more", false, bad)
			bad = copied(g)
			bad.Response.Body += "x"
			check("another body", false, bad)
			bad = copied(g)
			bad.Response.Code++
			check("another code", false, bad)
			bad = copied(g)
			bad.Request.Target = "/late"
			check("another page", r.Method == "POST", bad)
			bad = copied(g)
			bad.Request.Host = "other"
			check("another host", false, bad)
			bad = copied(g)
			bad.Node, bad.Known = 99, somePurges(3)
			check("another node that knows of purges", true, bad)
			checkGiven(t, "IsHonest where there is no origin", false, impl.IsHonest(impl.Origin{}, g), isHonestBy(impl.Origin{}, g))
		}
	}
	// A version counts from its own second on.
	for date, want := range map[int]bool{4: false, 5: true, 49: true, 50: false} {
		g := givenFor(get("/a"), 20, 60, 0)
		g.Response.Fields = impl.SetField(impl.SetField(g.Response.Fields, "date", stamp(date)), "age", strconv.Itoa(60-date))
		check("the first version at "+strconv.Itoa(date), want, g)
	}
	// Dates behind the time, and ages at the ends of what is an age.
	for now, want := range map[int]bool{math.MinInt: false, -1: false, 0: false, 19: false, 20: true, 21: false} {
		g := givenFor(get("/a"), 20, 20, 0)
		g.At = now
		check("a date and the time "+strconv.Itoa(now), want, g)
		g.Response.Fields = impl.DropField(g.Response.Fields, "age")
		check("a date without an age and the time "+strconv.Itoa(now), want, g)
	}
	for age, want := range map[int]bool{impl.Forever - 1: true, impl.Forever: true, impl.Forever + 1: false, impl.MaxTime - 20: false} {
		check("an age of many years", want, givenFor(get("/a"), 20, 20+age, 0))
	}
	for value, want := range map[string]bool{"13": true, "013": false, "+13": false, "13 ": false, "": false, "13, 13": false, "12": false} {
		g := givenFor(get("/a"), 20, 33, 0)
		g.Response.Fields = impl.SetField(g.Response.Fields, "age", value)
		check("the age "+value, want, g)
	}
	last := givenFor(get("/a"), impl.MaxTime, impl.MaxTime, 0)
	check("the last second", true, last)
	check("the first second", true, givenFor(get("/a"), 0, 0, 0))
}

// withRules is an answer of some age with these rules, to a request with those.
func withRules(asked string, rules string, age int) impl.Given {
	return impl.Given{Request: get("/a", "cache-control", asked), Response: answer(200, "b", "date", stamp(60), "cache-control", rules, "age", strconv.Itoa(age)), At: 60 + age}
}

func TestIsAsked(t *testing.T) {
	// To each rule the greatest age that it allows.
	for asked, limit := range map[string]int{
		"": impl.Forever, "no-cache": 0, "no-cache=x": 0, `no-cache=""`: 0, "No-Cache": 0, "no-store": impl.Forever, "max-age=0": 0, "max-age=5": 5, "max-age=05": 5, `max-age="5"`: 5, "max-age": 0, "max-age=x": 0, `max-age=""`: 0, "max-age=": impl.Forever, "max-age=5, max-age=9": 5, "max-age=9, max-age=5": 9, "max-age=9, no-cache": 0, "no-cache, max-age=9": 0, "max-age=99999999999": impl.Forever, "s-maxage=5": impl.Forever, "min-fresh=5": impl.Forever, "max-stale=5": impl.Forever, "max-stale, max-age=7": 7, "only-if-cached": impl.Forever, `x="no-cache, max-age=5"`: impl.Forever, "x, max-age=3, y": 3,
	} {
		for _, age := range []int{0, 1, limit - 1, limit, limit + 1, impl.Forever} {
			if age < 0 || age > impl.Forever {
				continue
			}
			for _, rules := range []string{"", "no-cache", "max-age=1"} {
				g := withRules(asked, rules, age)
				checkGiven(t, "IsAsked with "+asked+" and the age "+strconv.Itoa(age), age <= limit, impl.IsAsked(g), isAskedBy(g))
			}
			// Without a date, or with one that is none, all is as asked.
			for _, date := range []string{"x", "", "60", stamp(60) + " "} {
				g := withRules(asked, "", age)
				g.Response.Fields[0].Value = date
				checkGiven(t, "IsAsked with the date "+date, true, impl.IsAsked(g), isAskedBy(g))
				g.Response.Fields = g.Response.Fields[1:]
				checkGiven(t, "IsAsked without a date", true, impl.IsAsked(g), isAskedBy(g))
			}
		}
	}
	// The age is that of the field, whatever the time is; the fields of the request count all together.
	g := withRules("max-age=5", "", 5)
	g.At = 99
	checkGiven(t, "IsAsked at another time", true, impl.IsAsked(g), isAskedBy(g))
	g.Request.Fields = pairs("cache-control", "max-stale", "cache-control", "max-age=4")
	checkGiven(t, "IsAsked with two fields", false, impl.IsAsked(g), isAskedBy(g))
	g.Request.Fields = pairs("pragma", "no-cache")
	checkGiven(t, "IsAsked with no field", true, impl.IsAsked(g), isAskedBy(g))
	checkGiven(t, "IsAsked of nothing", true, impl.IsAsked(impl.Given{}), isAskedBy(impl.Given{}))
}

func TestIsBound(t *testing.T) {
	// To each rule of an answer the first age that it does not allow.
	for rules, end := range map[string]int{
		"": 0, "no-cache": 1, "no-cache=x": 1, "max-age=5": 0, "max-age=0": 0, "must-revalidate": 0, "proxy-revalidate": 0, "max-age=5, must-revalidate": 5, "must-revalidate, max-age=5": 5, "max-age=5, proxy-revalidate": 5, "max-age=1, must-revalidate": 1, "max-age=0, must-revalidate": 1, "max-age, proxy-revalidate": 1, "max-age=x, proxy-revalidate": 1, "max-age=, must-revalidate": 0, "s-maxage=7": 7, "s-maxage=0": 1, "s-maxage=1": 1, "s-maxage": 1, "s-maxage=": 0, "s-maxage=7, max-age=3, must-revalidate": 7, "max-age=3, s-maxage=7, proxy-revalidate": 7, "max-age=9, s-maxage=7, must-revalidate": 7, "s-maxage=7, s-maxage=9": 7, "s-maxage=7, no-cache": 1, "no-cache, max-age=9, must-revalidate": 1, "max-age=5, must-revalidate, max-age=9": 5, "max-age=5, stale-while-revalidate=9": 0, "private": 0, "no-store": 0, "public, s-maxage=99999999999": impl.Forever, `x="no-cache, s-maxage=3"`: 0, "S-MaxAge=4": 4,
	} {
		for _, age := range []int{0, 1, end - 1, end, end + 1, 9, impl.Forever} {
			if age < 0 || age > impl.Forever {
				continue
			}
			for _, asked := range []string{"", "no-cache", "max-stale"} {
				g := withRules(asked, rules, age)
				checkGiven(t, "IsBound with "+rules+" and the age "+strconv.Itoa(age), end == 0 || age < end, impl.IsBound(g), isBoundBy(g))
			}
			for _, date := range []string{"x", "", stamp(60)[1:]} {
				g := withRules("", rules, age)
				g.Response.Fields[0].Value = date
				checkGiven(t, "IsBound with the date "+date, true, impl.IsBound(g), isBoundBy(g))
				g.Response.Fields = g.Response.Fields[1:]
				checkGiven(t, "IsBound without a date", true, impl.IsBound(g), isBoundBy(g))
			}
		}
	}
	g := withRules("", "max-age=5", 5)
	g.Response.Fields = append(g.Response.Fields, pairs("cache-control", "must-revalidate")...)
	checkGiven(t, "IsBound with two fields", false, impl.IsBound(g), isBoundBy(g))
	g.Response.Code, g.At = 404, 3
	checkGiven(t, "IsBound of another code at another time", false, impl.IsBound(g), isBoundBy(g))
	checkGiven(t, "IsBound of nothing", true, impl.IsBound(impl.Given{}), isBoundBy(impl.Given{}))
}

func TestRulesOfAnswersAgainstAnotherWay(t *testing.T) {
	rules := []string{"no-cache", "max-age=3", "max-age", "s-maxage=2", "must-revalidate", "proxy-revalidate", "max-age=5", "s-maxage=4", "public"}
	rulePairs(rules, func(first string) {
		for _, second := range rules {
			for age := range 7 {
				l := first + ", " + second
				g := withRules(l, l, age)
				checkGiven(t, "IsAsked with "+l, isAskedBy(g), impl.IsAsked(g), isAskedBy(g))
				checkGiven(t, "IsBound with "+l, isBoundBy(g), impl.IsBound(g), isBoundBy(g))
			}
		}
	})
}

func TestIsAfter(t *testing.T) {
	named := func(date int, stamps string, names string) impl.Given {
		l := pairs("date", stamp(date), "x-purge", stamps, "surrogate-key", names)
		return impl.Given{Request: get("/./a"), Response: impl.Response{Code: 200, Fields: l}, At: 99}
	}
	w := impl.World{Issued: []impl.Issue{{Purge: purge(1, 1, ""), At: 10}, {Purge: purge(2, 2, "h/a"), At: 20}, {Purge: purge(3, 3, "k1"), At: 20}, {Purge: purge(4, 3, "x"), At: 30}}}
	check := func(what string, want bool, w impl.World, g impl.Given, known ...impl.Purge) {
		t.Helper()
		g.Known = known
		checkGiven(t, "IsAfter "+what, want, impl.IsAfter(w, g), isAfterBy(w, g))
	}
	// Which purges concern an answer: all of these are before purge 9, of which no time is known.
	for _, x := range []struct {
		p    impl.Purge
		want bool
	}{
		{purge(9, impl.PurgeAll, ""), false}, {purge(9, impl.PurgeAll, "x"), false}, {purge(9, impl.PurgeKey, "h/a"), false}, {purge(9, impl.PurgeName, "k1"), false}, {purge(9, impl.PurgeName, "k2"), false},
		{purge(9, impl.PurgeKey, "h/./a"), true}, {purge(9, impl.PurgeKey, "h/b"), true}, {purge(9, impl.PurgeKey, "h"), true}, {purge(9, impl.PurgeKey, ""), true}, {purge(9, impl.PurgeKey, "k1"), true}, {purge(9, impl.PurgeName, "k"), true}, {purge(9, impl.PurgeName, "k1 k2"), true}, {purge(9, impl.PurgeName, ""), true}, {purge(9, impl.PurgeName, "h/a"), true}, {purge(9, 0, ""), true}, {purge(9, 4, "h/a"), true}, {purge(9, -1, "k1"), true},
	} {
		g := named(50, "8", "k1 k2")
		check("of a purge", x.want, w, g, x.p)
		check("of other purges as well", x.want, w, g, purge(1, 1, ""), purge(2, 2, "h/a"), x.p)
		// With a stamp that is not less, it is after the purge.
		for stamps, want := range map[string]bool{"9": true, "10": true, "1000000000000": true, "8": x.want, "0": x.want, "": x.want, "x": x.want, "09": x.want, "9 ": x.want, "1000000000001": x.want} {
			check("with the stamp "+stamps, want, w, named(50, stamps, "k1 k2"), x.p)
		}
		// Without a date it is after all.
		g.Response.Fields[0].Value = "x"
		check("without a date", true, w, g, x.p)
		g.Response.Fields = g.Response.Fields[1:]
		check("without a field date", true, w, g, x.p)
	}
	// An answer without names has one, the empty one; a request without a key has the empty one.
	bare := named(50, "8", "")
	bare.Response.Fields = bare.Response.Fields[:2]
	check("of no name", false, w, bare, purge(9, impl.PurgeName, ""))
	bare.Request.Target = "/%"
	check("of no key", false, w, bare, purge(9, impl.PurgeKey, ""))
	check("of another key", true, w, bare, purge(9, impl.PurgeKey, "h/%"))
	// Its date may be the time of the purge, but not before, for each purge that concerns it.
	for date := range 40 {
		g := named(date, "9", "k1")
		check("of all", date >= 10, w, g, purge(1, 1, ""))
		check("of a key", date >= 20, w, g, purge(1, 1, ""), purge(2, 2, "h/a"))
		check("of a name", date >= 20, w, g, purge(3, 3, "k1"))
		check("of another name", true, w, g, purge(4, 3, "x"))
		check("of no purge", true, w, g)
		check("of a purge that was not issued", true, w, g, purge(7, 1, ""))
		// The number tells which one was issued, not what it was for.
		check("of a purge with the same number", date >= 30, w, g, purge(4, 1, ""))
		// Of several with the same number, each one counts, wherever it stands.
		for _, l := range [][]int{{10, 25}, {25, 10}, {10, 25, 3}, {-9, 25}} {
			several := impl.World{}
			for _, at := range l {
				several.Issued = append(several.Issued, impl.Issue{Purge: purge(5, 2, "other"), At: at}, impl.Issue{Purge: purge(6, 1, ""), At: 38})
			}
			check("of several with one number", date >= 25, several, g, purge(5, 1, ""))
		}
		check("with a stamp that is less", false, w, named(date, "0", "k1"), purge(1, 1, ""))
		check("with a stamp that is less than one of them", date < 0, w, named(date, "2", "k1"), purge(1, 1, ""), purge(2, 2, "h/a"), purge(3, 3, "k1"))
	}
	check("in no world", true, impl.World{}, named(0, "9", "k1"), purge(1, 1, ""))
	// Numbers that no purge has.
	check("of a purge with the least number", true, w, named(50, "0", ""), purge(math.MinInt, 1, ""))
	check("of a purge with the greatest number", false, w, named(50, "8", ""), purge(math.MaxInt, 1, ""))
	check("of a purge with the number 0", true, w, named(50, "0", ""), purge(0, 1, ""))
}

// faulty returns an answer with some of the faults, and a world in which it has them.
func faulty(faults string) (impl.World, impl.Given) {
	w := worldOf(40, -1)
	w.Issued, w.Net.Seq = issues(3), 3
	w.Issued[2].At = 25
	g := givenFor(get("/strict"), 20, 25, 3)
	if strings.Contains(faults, "asked") {
		g.Request.Fields = pairs("cache-control", "max-age=4")
	}
	if strings.Contains(faults, "bound") {
		// Its rules allow 10 seconds.
		g.At = 35
		g.Response = impl.WithAge(g.Response, 15)
	}
	if strings.Contains(faults, "purge") {
		g.Known = []impl.Purge{w.Issued[2].Purge}
	}
	if strings.Contains(faults, "honest") {
		g.Response.Body += "!"
	}
	return w, g
}

func TestFaultOf(t *testing.T) {
	order := []string{"honest", "asked", "bound", "purge"}
	sets := []string{}
	rows([]string{"1", "0"}, 4, func(bits string) {
		set := ""
		for i, name := range order {
			if bits[i] == '1' {
				set += name + " "
			}
		}
		sets = append(sets, set)
	})
	first := func(set string) string {
		return strings.Split(set+" ", " ")[0]
	}
	for _, set := range sets {
		w, g := faulty(set)
		_, good := faulty("")
		for i, holds := range []bool{impl.IsHonest(w.Net.Origin, g), impl.IsAsked(g), impl.IsBound(g), impl.IsAfter(w, g)} {
			if holds == strings.Contains(set, order[i]) {
				t.Errorf("of %q, %s is %v", set, order[i], holds)
			}
		}
		// The fault of an answer is its first one, wherever it stands among good ones, and in a world that is none.
		for i := range 3 {
			w.Given = []impl.Given{good, good, good}
			w.Given[i] = g
			checkFault(t, set, w, first(set))
			broken := copied(w)
			broken.Now = 0
			want := first(set)
			if want == "" {
				want = "state"
			}
			checkFault(t, set+"in a world that is none", broken, want)
		}
		// Of two answers with faults, the first one counts.
		for _, other := range sets {
			_, h := faulty(other)
			w.Given = []impl.Given{good, g, h, good}
			checkFault(t, set+"and then "+other, w, first(strings.TrimLeft(first(set)+" "+other, " ")))
		}
	}
	checkFault(t, "an empty world", worldOf(10, -1), "")
	checkFault(t, "nothing", impl.World{}, "state")
	checkFault(t, "a busy world", busy(), "")
	// The origin is the one of now: a version that came later changes nothing, one before does.
	w := busy()
	w.Net.Origin.Resources[0].Versions[1].At = 19
	checkFault(t, "another version later", w, "")
	w.Net.Origin.Resources[0].Versions[1].At = 10
	checkFault(t, "another version before", w, "honest")
	w = busy()
	w.Net.Origin.Host = ""
	checkFault(t, "no origin", w, "honest")
}

// Every answer is one that the origin gave as many seconds ago as its age says, whatever has happened before.
func TestEveryAnswerIsOneThatTheOriginGave(t *testing.T) {
	d := &dice{state: 330}
	ages, faults := 0, map[string]int{}
	for range 120 {
		w := anyWorld(d)
		for range 110 {
			next, ok := impl.ApplyEvent(w, anyEvent(d, len(w.Net.Nodes)))
			if ok {
				w = next
			}
		}
		checkFault(t, "a history", w, "")
		if t.Failed() {
			t.Fatalf("the world is %+v", w)
		}
		// What is changed behind is seen, or is no fault in another way either.
		for i, g := range w.Given {
			ages += impl.AgeField(g.Response)
			bad := copied(w)
			h := &bad.Given[i]
			switch d.roll(9) {
			case 0:
				h.Response = impl.WithAge(h.Response, max(0, impl.AgeField(h.Response)+d.roll(3)-1))
			case 1:
				h.At += d.roll(3) - 1
			case 2:
				h.Response.Body += pick(d, []string{"", "x"})
			case 3:
				h.Response.Fields = impl.DropField(h.Response.Fields, pick(d, []string{"date", "age", "etag", "x-purge", "cache-control"}))
			case 4:
				bad.Given = append(bad.Given, slices.Repeat(bad.Given, 3)...)
			case 5, 6:
				h.Request.Fields = impl.SetField(h.Request.Fields, "cache-control", pick(d, []string{"no-cache", "max-age=3", "max-age=0"}))
			default:
				h.Known = append(h.Known, purge(h.Node+d.roll(9), 1+d.roll(3), pick(d, []string{"h/a", "k1", ""})))
			}
			got := impl.FaultOf(bad)
			if want := faultBy(bad); got != want {
				t.Fatalf("the fault of %+v is %q, want %q", bad, got, want)
			}
			faults[got]++
		}
	}
	for _, name := range []string{"", "honest", "asked", "purge", "state"} {
		if faults[name] < 20 {
			t.Errorf("the fault %q is found %d times", name, faults[name])
		}
	}
	if ages < 500 {
		t.Errorf("all ages together are %d", ages)
	}
}

func TestAuditsShareNoMemory(t *testing.T) {
	w := busy()
	w.Given = append(w.Given, givenFor(get("/l", "cache-control", "max-age=3"), 10, 15, 0))
	for i := range w.Given {
		checkApart(t, "the functions of the audit", w, func(w impl.World) []any {
			g := w.Given[i]
			return []any{impl.StripAnswer(g.Response), impl.IsHonest(w.Net.Origin, g), impl.IsAsked(g), impl.IsBound(g), impl.IsAfter(w, g), impl.FaultOf(w)}
		})
	}
}
