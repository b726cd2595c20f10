package tests

import (
	"math"
	"strconv"
	"strings"
	"testing"

	"loop.example/g03012/impl"
)

// assembledBy puts a page together from a list of what is to be done, of which the first is done next.
func assembledBy(r impl.Request, answers func(impl.Request) impl.Response) (string, bool) {
	type task struct {
		impl.Part
		depth int
	}
	tasks := []task{{pagePart(r.Target), 0}}
	page, fetched, found := "", 0, false
	for len(tasks) > 0 {
		first := tasks[0]
		tasks = tasks[1:]
		if first.Kind == impl.PartText {
			page += first.Text
			continue
		}
		if first.depth > 3 || fetched == 20 {
			continue
		}
		fetched++
		asked := bareBy(r)
		asked.Target = first.Text
		x := answers(asked)
		if x.Code != 200 {
			continue
		}
		found = found || first.depth == 0
		parts, ok := pagePartsBy(x.Body)
		if !ok {
			parts = []impl.Part{textPart(x.Body)}
		}
		inner := []task{}
		for _, p := range parts {
			inner = append(inner, task{p, first.depth + 1})
		}
		tasks = append(inner, tasks...)
	}
	return page[:min(len(page), 6000)], found
}

// checkPlainPage looks whether AssemblePlain gives this, as another way does.
func checkPlainPage(t *testing.T, o impl.Origin, r impl.Request, now int, want string, wantOK bool) {
	t.Helper()
	page, ok := assembledBy(r, func(r impl.Request) impl.Response { return impl.FinishAnswer(r, impl.PlainAnswer(o, r, now)) })
	if got, gotOK := impl.AssemblePlain(o, r, now); got != want || gotOK != wantOK || page != want || ok != wantOK {
		t.Fatalf("AssemblePlain(%+v, %q, %d) = %q, %v, want %q, %v", o, r, now, got, gotOK, want, wantOK)
	}
}

// assembled looks whether AssemblePage gives the network and the page that the model gives.
func assembled(t *testing.T, n impl.Network, i int, r impl.Request, now int) (impl.Network, string, bool) {
	t.Helper()
	m := model{n: copied(n), now: now}
	want, wantOK := assembledBy(r, func(r impl.Request) impl.Response { return m.answers(i, r) })
	next, page, ok := impl.AssemblePage(n, i, r, now)
	if page != want || ok != wantOK || !alike(next, m.n) {
		t.Fatalf("AssemblePage(%+v, %d, %q, %d) = %+v, %q, %v, want %+v, %q, %v", n, i, r, now, next, page, ok, m.n, want, wantOK)
	}
	if !impl.IsNetwork(next) {
		t.Fatalf("AssemblePage(%+v, %d, %q, %d) leaves %+v, which is no network", n, i, r, now, next)
	}
	return next, page, ok
}

// templates is an origin with pages of these targets and texts, all of which are fresh for 20 seconds.
func templates(texts ...string) impl.Origin {
	o := originOf()
	for i := 0; i < len(texts); i += 2 {
		p := page(texts[i], version(0, texts[i+1]))
		p.Control = "max-age=20"
		o.Resources = append(o.Resources, p)
	}
	return o
}

// include is the tag for a page.
func include(target string) string {
	return "<%include " + target + "%>"
}

// checkPages looks whether the origin itself and nodes in front of it make this of the page /a, and how often the origin is asked for it.
func checkPages(t *testing.T, o impl.Origin, want string, asks int) {
	t.Helper()
	checkPlainPage(t, o, get("/a"), 10, want, true)
	for _, ups := range [][]int{{-1}, {-1, 0}, {-1, 0, 1}} {
		n, _ := impl.NewNetwork(o, ups, impl.MaxRoom)
		next, got, ok := assembled(t, n, len(ups)-1, get("/a"), 10)
		if !ok || got != want || next.Asks != asks {
			t.Errorf("in front of %+v, the page is %q, %v, with %d asks, want %q with %d", o, got, ok, next.Asks, want, asks)
		}
		// All of it is there now.
		next, got, ok = assembled(t, next, len(ups)-1, get("/a"), 12)
		if !ok || got != want || next.Asks != asks {
			t.Errorf("in front of %+v, the page is then %q, %v, with %d asks, want %q with %d", o, got, ok, next.Asks, want, asks)
		}
	}
}

func TestLimitsOfAssembly(t *testing.T) {
	if impl.MaxDeep != 3 || impl.MaxFetches != 20 || impl.MaxPage != 6000 {
		t.Error(impl.MaxDeep, impl.MaxFetches, impl.MaxPage)
	}
}

func TestAssembledPages(t *testing.T) {
	for _, x := range []struct {
		want  string
		asks  int
		texts []string
	}{
		// Without tags, of nothing, of remarks alone, and with remarks.
		{"text", 1, []string{"/a", "text"}}, {"", 1, []string{"/a", ""}}, {"", 1, []string{"/a", "<%#%><%# r %>"}}, {"ab", 1, []string{"/a", "<%#r%>a<%#r%>b"}}, {"a%><b>", 1, []string{"/a", "a%><b>"}}, {"\xff\x00", 1, []string{"/a", "\xff<%#%>\x00"}},
		// Of one other page, of several, and of the same one several times.
		{"b", 2, []string{"/a", include("/b"), "/b", "b"}}, {"1b2c3", 3, []string{"/a", "1" + include("/b") + "2" + include("/c") + "3", "/b", "b", "/c", "c"}}, {"bbb", 2, []string{"/a", include("/b") + include("/b") + include("/b"), "/b", "b"}}, {"b-b", 2, []string{"/a", include("/b?x&y") + "-" + include("/b?x&y"), "/b?x&y", "b"}}, {"", 2, []string{"/a", include("/b"), "/b", "<%#r%>"}},
		// Within others: the remark of one is no part of another.
		{"(b[c]d)", 3, []string{"/a", "(" + include("/b") + "d)", "/b", "b[" + include("/c") + "]", "/c", "<%#r%>c"}}, {"<%#c%>", 4, []string{"/a", include("/b") + include("/c") + include("/d"), "/b", "<", "/c", "%#c", "/d", "%>"}},
		// Pages that contain themselves or each other.
		{"aaaa", 1, []string{"/a", "a" + include("/a")}}, {"aaaa", 1, []string{"/a", include("/a") + "a"}}, {"(((())))", 1, []string{"/a", "(" + include("/a") + ")"}}, {"aaaa", 2, []string{"/a", include("/a") + include("/none") + "a"}}, {"abab", 2, []string{"/a", "a" + include("/b"), "/b", "b" + include("/a")}}, {"", 1, []string{"/a", include("/a")}},
		// A page that cannot be read stays as it is, wherever it stands.
		{"a<%", 1, []string{"/a", "a<%"}}, {"<%x%>", 1, []string{"/a", "<%x%>"}}, {"b<%include %>" + include("/c"), 1, []string{"/a", "b<%include %>" + include("/c"), "/c", "c"}}, {"a<%b", 2, []string{"/a", "a" + include("/b"), "/b", "<%b"}}, {"a" + include("/./b"), 1, []string{"/a", "a" + include("/./b"), "/b", "b"}}, {"<<%#r%>%", 1, []string{"/a", "<<%#r%>%"}}, {strings.Repeat(include("/b"), 13), 1, []string{"/a", strings.Repeat(include("/b"), 13), "/b", "b"}}, {strings.Repeat("b", 12), 2, []string{"/a", strings.Repeat(include("/b"), 12), "/b", "b"}},
		// Texts of two pages do not make a tag together.
		{"<" + "%include /c%>", 2, []string{"/a", "<" + include("/b"), "/b", "%include /c%>", "/c", "c"}},
	} {
		checkPages(t, templates(x.texts...), x.want, x.asks)
	}
}

func TestDepthsOfPages(t *testing.T) {
	// A row of pages, each of which contains the next one.
	o := originOf()
	for i := range 8 {
		text := strconv.Itoa(i) + include("/"+strconv.Itoa(i+1)) + "."
		o.Resources = append(o.Resources, templates("/"+strconv.Itoa(i), text).Resources...)
	}
	for i, want := range []string{"0123....", "1234....", "2345....", "3456....", "4567....", "567...", "67..", "7."} {
		checkPlainPage(t, o, get("/"+strconv.Itoa(i)), 10, want, true)
		n, _ := impl.NewNetwork(o, []int{-1}, impl.MaxRoom)
		// The page behind the last one is not asked for, but what is not there is.
		next, page, ok := assembled(t, n, 0, get("/"+strconv.Itoa(i)), 10)
		if asks := min(4, 9-i); !ok || page != want || next.Asks != asks || len(next.Nodes[0].Store.Entries) != asks {
			t.Errorf("page %d is %q, %v, with %d asks, want %q with %d", i, page, ok, next.Asks, want, asks)
		}
	}
	// The depth counts anew for each tag.
	deep := templates("/a", include("/b")+include("/d")+include("/b"), "/b", "b"+include("/c"), "/c", "c"+include("/d"), "/d", "d"+include("/e"), "/e", "e")
	checkPages(t, deep, "bcddebcd", 5)
	// At the greatest depth, tags are left out, but a page that cannot be read keeps them.
	checkPages(t, templates("/a", include("/b"), "/b", include("/c"), "/c", include("/d"), "/d", "["+include("/a")+"]"), "[]", 4)
	checkPages(t, templates("/a", include("/b"), "/b", include("/c"), "/c", include("/d"), "/d", "["+include("/a")+"<%]"), "["+include("/a")+"<%]", 4)
}

// unstored lets the origin be asked for each page anew.
func unstored(o impl.Origin) impl.Origin {
	o = copied(o)
	for i := range o.Resources {
		o.Resources[i].Control = "no-store"
	}
	return o
}

func TestHowManyPagesAreFetched(t *testing.T) {
	for _, x := range []struct {
		want  string
		asks  int
		texts []string
	}{
		// 1, 13, 19, 20 and more pages, itself included.
		{"a", 1, []string{"/a", "a"}}, {strings.Repeat("b", 12), 13, []string{"/a", strings.Repeat(include("/b"), 12), "/b", "b"}}, {strings.Repeat("cccccccc.", 2), 19, []string{"/a", include("/b") + include("/b"), "/b", strings.Repeat(include("/c"), 8) + ".", "/c", "c"}}, {"cccccccc.cccccccc..", 20, []string{"/a", strings.Repeat(include("/b"), 3), "/b", strings.Repeat(include("/c"), 8) + ".", "/c", "c"}}, {"cccccccc.cccccccc..", 20, []string{"/a", strings.Repeat(include("/b"), 4), "/b", strings.Repeat(include("/c"), 8) + ".", "/c", "c"}},
		// What is found first is fetched first, with all that it contains, and texts stay.
		{"1ccccccccc2cccccccc34", 20, []string{"/a", "1" + include("/b") + "2" + include("/b") + "3" + include("/b") + "4", "/b", strings.Repeat(include("/c"), 9), "/c", "c"}},
		// Pages that are not there count, also if it is known that they are not.
		{"..c", 5, []string{"/a", include("/b") + include("/b") + include("/c") + include("/d"), "/b", strings.Repeat(include("/x"), 7) + ".", "/c", "c" + include("/x") + include("/x") + include("/x"), "/d", "d"}},
		// Each page contains itself twice: three deep, this would be 15 pages, and with three times 40.
		{strings.Repeat("a", 15), 15, []string{"/a", "a" + include("/a") + include("/a")}}, {strings.Repeat("a", 20), 20, []string{"/a", "a" + include("/a") + include("/a") + include("/a")}},
	} {
		o := unstored(templates(x.texts...))
		checkPlainPage(t, o, get("/a"), 10, x.want, true)
		n, _ := impl.NewNetwork(o, []int{-1, 0}, impl.MaxRoom)
		next, page, ok := assembled(t, n, 1, get("/a"), 10)
		if !ok || page != x.want || next.Asks != x.asks {
			t.Errorf("of %q, the page is %q, %v, with %d asks, want %q with %d", x.texts, page, ok, next.Asks, x.want, x.asks)
		}
		// What is stored counts as well.
		n, _ = impl.NewNetwork(templates(x.texts...), []int{-1, 0}, impl.MaxRoom)
		for range 2 {
			n, page, ok = assembled(t, n, 1, get("/a"), 10)
			if !ok || page != x.want {
				t.Errorf("of %q that are stored, the page is %q, %v, want %q", x.texts, page, ok, x.want)
			}
		}
	}
}

func TestAnswersThatAreNoPages(t *testing.T) {
	o := templates("/a", "("+include("/x")+")", "/b", "["+include("/a")+"]", "/c", "{"+include("/b")+"}")
	o.Resources = append(o.Resources, page("/x", gone(3), version(30, "x"), gone(40)))
	// The page at the end of a row is gone, or not there yet, or there: at each place.
	for now, inner := range map[int]string{1: "", 5: "", 29: "", 30: "x", 39: "x", 40: "", impl.MaxTime: ""} {
		for target, want := range map[string]string{"/a": "(" + inner + ")", "/b": "[(" + inner + ")]", "/c": "{[(" + inner + ")]}"} {
			checkPlainPage(t, o, get(target), now, want, true)
			n, _ := impl.NewNetwork(o, []int{-1, 0}, impl.MaxRoom)
			next, page, ok := assembled(t, n, 1, get(target), now)
			if !ok || page != want || next.Asks != len(want)/2+1-len(inner)/2 {
				t.Errorf("%q at %d is %q, %v, with %d asks, want %q", target, now, page, ok, next.Asks, want)
			}
		}
		checkPlainPage(t, o, get("/x"), now, inner, inner != "")
		n, _ := impl.NewNetwork(o, []int{-1, 0}, impl.MaxRoom)
		next, page, ok := assembled(t, n, 1, get("/x"), now)
		// The network is not what it was: the origin was asked.
		if ok != (inner != "") || page != inner || next.Asks != 1 || next.Nodes[1].Sketch.Total != 1 {
			t.Errorf("/x at %d is %q, %v, with %d asks", now, page, ok, next.Asks)
		}
	}
	// Pages for which nobody can ask: targets that no request has, or that are bad.
	n, _ := impl.NewNetwork(o, []int{-1, 0}, impl.MaxRoom)
	for _, r := range []impl.Request{get("/none"), get("/%"), get("/a b"), get(""), get("a"), request("GET", "other", "/a"), request("GET", "", "/a"), request("GET", "h", "/a", "A", "b"), {}} {
		checkPlainPage(t, o, r, 10, "", false)
		if next, page, ok := assembled(t, n, 1, r, 10); ok || page != "" || next.Asks == 0 {
			t.Errorf("for %q, the page is %q, %v, with %d asks", r, page, ok, next.Asks)
		}
	}
	bad := templates("/a", "("+include("/b c")+include("/\xff")+include("/"+strings.Repeat("p", 59))+")", "/b c", "no", "/"+strings.Repeat("p", 59), "yes")
	checkPlainPage(t, bad, get("/a"), 10, "(yes)", true)
	made, _ := impl.NewNetwork(bad, []int{-1, 0}, impl.MaxRoom)
	if next, page, ok := assembled(t, made, 1, get("/a"), 10); !ok || page != "(yes)" || next.Asks != 4 {
		t.Errorf("the page is %q, %v, with %d asks", page, ok, next.Asks)
	}
	// All ways of writing the target of the first page are good.
	checkPlainPage(t, o, get("/x/../%61"), 30, "(x)", true)
	if _, page, ok := assembled(t, n, 1, get("/./a?"), 30); !ok || page != "(x)" {
		t.Errorf("the page is %q, %v", page, ok)
	}
}

func TestLongPages(t *testing.T) {
	leaf := pageText(400)
	for _, x := range []struct {
		more string
		want int
	}{{"", 5999}, {"x", 6000}, {"xy", 6000}, {strings.Repeat("z", 300), 6000}} {
		// Fifteen leaves of 400 bytes, but for one, in three pages.
		o := templates("/a", include("/b")+include("/b")+include("/c")+x.more, "/b", strings.Repeat(include("/l"), 5), "/c", strings.Repeat(include("/l"), 4)+include("/s"), "/l", leaf, "/s", leaf[1:])
		want := strings.Repeat(leaf, 14) + leaf[1:] + x.more
		checkPages(t, o, want[:x.want], 5)
		// The same where the text stands in front, and a page deeper.
		o.Resources[0].Versions[0].Text = x.more + include("/b") + include("/b") + include("/c")
		want = x.more + strings.Repeat(leaf, 14) + leaf[1:]
		checkPages(t, o, want[:x.want], 5)
		o.Resources = append(o.Resources, templates("/d", "<"+include("/a")+">").Resources...)
		checkPlainPage(t, o, get("/d"), 10, ("<" + want[:x.want] + ">")[:min(6000, x.want+2)], true)
	}
	// What is behind the end is fetched nevertheless.
	o := templates("/a", strings.Repeat(include("/b"), 4)+include("/c"), "/b", strings.Repeat(include("/l"), 3)+pageText(350), "/l", leaf, "/c", "c")
	want := strings.Repeat(strings.Repeat(leaf, 3)+pageText(350), 4) + "c"
	checkPages(t, o, want[:6000], 4)
	n, _ := impl.NewNetwork(o, []int{-1}, impl.MaxRoom)
	next, page, _ := assembled(t, n, 0, get("/a"), 10)
	if len(want) != 6201 || len(page) != 6000 || impl.FindEntry(next.Nodes[0].Store, get("/c")) < 0 {
		t.Errorf("of %d bytes there are %d, and the node has %d pages", len(want), len(page), len(next.Nodes[0].Store.Entries))
	}
}

func TestRequestsForPages(t *testing.T) {
	o := templates("/a", "("+include("/l")+include("/m")+")", "/l", "l", "/m", "m")
	o.Resources[1].Langs, o.Resources[2].Private = []string{"de", "en"}, true
	plain := "([de]lm)"
	for want, l := range map[string][][]string{
		// Neither a condition nor a range goes on, for the first page and the others.
		plain: {{}, {"range", "bytes=0-0"}, {"range", "bytes=99-"}, {"range", "bytes=0-0,2-2"}, {"if-none-match", `"0//"`}, {"if-none-match", "*"}, {"if-match", `"9//"`}, {"if-modified-since", stamp(9)}, {"if-unmodified-since", stamp(0)}, {"if-range", `"0//"`, "range", "bytes=1-"}, {"authorization", "no token"}, {"cache-control", "no-cache"}, {"cache-control", "max-stale, no-store"}, {"accept-language", "fr"}, {"x", "y"}},
		// The other fields do.
		"([en]lm)": {{"accept-language", "en"}, {"accept-language", "en, de;q=0.5", "if-match", `"9//"`}}, "([de]lu: m)": {{"authorization", "u"}, {"range", "bytes=0-0", "authorization", "u"}}, "([en]lv: m)": {{"authorization", "v", "accept-language", "en", "if-none-match", "*"}},
	} {
		for _, fields := range l {
			for _, method := range []string{"GET", "HEAD", "POST", "OPTIONS", "get", ""} {
				r := request(method, "h", "/a", fields...)
				checkPlainPage(t, o, r, 10, want, true)
				n, _ := impl.NewNetwork(o, []int{-1, 0}, impl.MaxRoom)
				if _, page, ok := assembled(t, n, 1, r, 10); !ok || page != want {
					t.Errorf("for %q, the page is %q, %v, want %q", r, page, ok, want)
				}
			}
		}
	}
	// A node takes fewer fields than the origin.
	n, _ := impl.NewNetwork(o, []int{-1, 0}, impl.MaxRoom)
	for count := 18; count < 27; count++ {
		r, wantPlain, want := manyAsked("GET", "/a", count), "", ""
		if count < 24 {
			wantPlain = plain
		}
		if count < 21 {
			want = plain
		}
		checkPlainPage(t, o, r, 10, wantPlain, wantPlain != "")
		if next, page, ok := assembled(t, n, 1, r, 10); page != want || ok != (want != "") || !ok && !alike(next, n) {
			t.Errorf("with %d fields, the page is %q, %v, want %q", count, page, ok, want)
		}
		// Those that do not go on do not count.
		r.Fields = append(r.Fields, pairs("range", "bytes=0-0", "if-match", `"9//"`, "if-none-match", "*")...)
		if _, page, ok := assembled(t, n, 1, r, 10); page != want || ok != (want != "") {
			t.Errorf("with %d fields and a range, the page is %q, %v, want %q", count, page, ok, want)
		}
	}
}

func TestNodesThatAssemble(t *testing.T) {
	o := templates("/a", "("+include("/b")+include("/c")+")", "/b", "b", "/c", "c")
	o.Resources[2].Control = "max-age=5"
	made, _ := impl.NewNetwork(o, []int{-1, 0}, impl.MaxRoom)
	n, _, _ := assembled(t, made, 1, get("/a"), 10)
	check := func(what string, n impl.Network, now int, want string, asks int) impl.Network {
		t.Helper()
		next, page, ok := assembled(t, n, 1, get("/a"), now)
		if page != want || ok != (want != "") || next.Asks-n.Asks != asks {
			t.Errorf("with %s, at %d, the page is %q, %v, with %d asks, want %q with %d", what, now, page, ok, next.Asks-n.Asks, want, asks)
		}
		return next
	}
	check("nothing changed", n, 14, "(bc)", 0)
	check("a page that is stale", n, 15, "(bc)", 1)
	check("all of them stale", n, 30, "(bc)", 3)
	for what, failed := range map[string]impl.Network{"the node cut": cutAt(n, 1), "the node behind cut": cutAt(n, 0), "the node behind down": downAt(n, 0)} {
		check(what, failed, 14, "(bc)", 0)
		// What cannot be got is left out; without the first page there is none.
		check(what, failed, 15, "(b)", 0)
		check(what, failed, 29, "(b)", 0)
		check(what, failed, 30, "", 0)
	}
	check("the node down", downAt(n, 1), 12, "", 0)
	for what, failed := range map[string]impl.Network{"a new node cut": cutAt(made, 1), "a new node in front of one that is down": downAt(made, 0)} {
		check(what, failed, 10, "", 0)
	}
	ruled := func(l ...impl.Rule) impl.Network {
		m := copied(n)
		m.Nodes[1].Policy = l
		return m
	}
	check("a page denied", ruled(rule(impl.ActionDeny, "/b", 0)), 12, "(c)", 0)
	check("all denied", ruled(rule(impl.ActionDeny, "/", 0)), 12, "", 0)
	check("a page capped", ruled(rule(impl.ActionCap, "/b", 1)), 12, "(bc)", 0)
	check("pages passed", ruled(rule(impl.ActionPass, "/", 0)), 12, "(bc)", 0)
	// Rooms that are too small or full: all is asked for anew, or what was asked for least goes.
	small := copied(made)
	small.Nodes[0].Room, small.Nodes[1].Room = 0, 1
	small = check("no room", small, 10, "(bc)", 3)
	check("room for one page", small, 11, "(bc)", 3)
	full := copied(made)
	for i := range 12 {
		full, _ = impl.FetchPage(full, 1, get("/n"+strconv.Itoa(i)), 10)
	}
	full = check("a full store", full, 10, "(bc)", 3)
	if len(full.Nodes[1].Store.Entries) != 12 {
		t.Errorf("the node has %d pages", len(full.Nodes[1].Store.Entries))
	}
	// Purges that the node knows: it asks behind the node that does not know them.
	purged, p := issued(n, impl.PurgeKey, "h/b")
	purged, _ = impl.DeliverPurge(purged, 1, p)
	purged = check("a page purged", purged, 12, "(bc)", 1)
	check("a page purged", purged, 13, "(bc)", 0)
	// A page that changes is another one only when it is no longer fresh.
	changed := copied(n)
	changed.Origin, _ = impl.PublishPage(o, "/b", version(11, include("/c")+"!"))
	changed = check("another version", changed, 14, "(bc)", 0)
	check("another version", changed, 32, "(c!c)", 3)
}

func TestAssembliesFail(t *testing.T) {
	bad := stocked()
	bad.Nodes[4].Room = -1
	for _, x := range []struct {
		n   impl.Network
		i   int
		now int
	}{
		{stocked(), -1, 10}, {stocked(), 5, 10}, {stocked(), math.MinInt, 10}, {stocked(), math.MaxInt, 10}, {stocked(), 0, -1}, {stocked(), 0, impl.MaxTime + 1}, {stocked(), 0, math.MinInt}, {stocked(), 0, math.MaxInt}, {bad, 0, 10}, {impl.Network{}, 0, 10},
	} {
		if n, page, ok := impl.AssemblePage(x.n, x.i, get("/a"), x.now); ok || page != "" || !alike(n, x.n) {
			t.Errorf("AssemblePage(%+v, %d, %d) = %+v, %q, %v", x.n, x.i, x.now, n, page, ok)
		}
	}
	o := templates("/a", "("+include("/a")+")")
	for now, want := range map[int]string{-1: "", 0: "(((())))", impl.MaxTime: "(((())))", impl.MaxTime + 1: "", math.MinInt: "", math.MaxInt: ""} {
		checkPlainPage(t, o, get("/a"), now, want, want != "")
		n, _ := impl.NewNetwork(o, []int{-1}, impl.MaxRoom)
		if next, page, ok := impl.AssemblePage(n, 0, get("/a"), now); page != want || ok != (want != "") || next.Asks != len(want)/8 {
			t.Errorf("at %d, the page is %q, %v, with %d asks", now, page, ok, next.Asks)
		}
	}
	for what, o := range map[string]impl.Origin{"nothing": {}, "no host": {Resources: o.Resources}, "a bad page": templates("/a", "a", "/./b", "b"), "two pages with one target": templates("/a", "a", "/a", "a"), "a page that is too long": templates("/a", strings.Repeat("a", 401)), "no pages": originOf()} {
		if page, ok := impl.AssemblePlain(o, get("/a"), 10); ok || page != "" {
			t.Errorf("with %s, the page is %q, %v", what, page, ok)
		}
	}
}

// anyTemplates is an origin whose pages are put together of each other by chance.
func anyTemplates(d *dice, times int) impl.Origin {
	targets := []string{"/a", "/b", "/c", "/l", "/m"}
	o := originOf()
	for _, target := range targets {
		p := page(target)
		p.Versions = nil
		for k := range times {
			text := ""
			for range d.roll(5) {
				text += pick(d, []string{"t", "<", "<%#r%>", include(pick(d, targets)), include(pick(d, targets)), include(pick(d, targets)), include("/none"), target})
			}
			if d.roll(25) == 0 {
				text += "<%"
			}
			p.Versions = append(p.Versions, impl.Version{At: 15 * k, Text: text, Gone: d.roll(15) == 0})
		}
		p.Control = pick(d, []string{"max-age=9", "max-age=20", "s-maxage=4", "no-cache", "no-store", "", "max-age=5, stale-while-revalidate=9"})
		if target == "/l" {
			p.Langs = []string{"de", "en"}
		}
		p.Private = target == "/m" && d.roll(2) == 0
		o.Resources = append(o.Resources, p)
	}
	return o
}

// A page assembled at an edge is the page of the origin: always if the pages do not change, whatever is stored, and at each time by a network that has nothing yet.
func TestAPageAssembledAtAnEdgeIsThePageOfTheOrigin(t *testing.T) {
	d := &dice{state: 30}
	long, found := 0, 0
	for range 150 {
		o := anyTemplates(d, 1)
		n, _ := impl.NewNetwork(o, pick(d, trees), pick(d, []int{impl.MaxRoom, 40, 3}))
		for now := 0; now < 40; now += d.roll(7) {
			r := request(pick(d, []string{"GET", "HEAD"}), "h", pick(d, []string{"/a", "/b", "/c", "/l", "/m"}))
			if d.roll(3) == 0 {
				r.Fields = pairs(pick(d, [][]string{{"accept-language", "en"}, {"authorization", "u"}, {"range", "bytes=1-"}, {"if-none-match", "*"}, {"cache-control", "no-cache"}})...)
			}
			want, wantOK := impl.AssemblePlain(o, r, now)
			next, page, ok := assembled(t, n, d.roll(len(n.Nodes)), r, now)
			if page != want || ok != wantOK {
				t.Fatalf("%q at %d is %q, %v, and of the origin %q, %v", r, now, page, ok, want, wantOK)
			}
			checkPlainPage(t, o, r, now, want, wantOK)
			n = next
			long, found = max(long, len(page)), found+strings.Count(page, "t")
		}
	}
	if long < 30 || found < 1000 {
		t.Errorf("the pages have no more than %d bytes, and %d of one kind", long, found)
	}
	for range 150 {
		o := anyTemplates(d, 3)
		ups := pick(d, trees)
		for now := 0; now < 50; now += 1 + d.roll(7) {
			r := get(pick(d, []string{"/a", "/b", "/c", "/l"}), "accept-language", "en")
			n, _ := impl.NewNetwork(o, ups, impl.MaxRoom)
			want, wantOK := impl.AssemblePlain(o, r, now)
			_, page, ok := assembled(t, n, len(ups)-1, r, now)
			if page != want || ok != wantOK {
				t.Fatalf("%q at %d is %q, %v, and of the origin %q, %v", r, now, page, ok, want, wantOK)
			}
		}
	}
}

// Each part of an assembled page is one that the node would give, also of other versions.
func TestPagesThatChangeAreAssembledFromAnswers(t *testing.T) {
	d := &dice{state: 31}
	for range 100 {
		n, _ := impl.NewNetwork(anyTemplates(d, 3), pick(d, trees), impl.MaxRoom)
		for now := 0; now < 60; now += d.roll(5) {
			i := d.roll(len(n.Nodes))
			if d.roll(9) == 0 {
				n.Nodes[i].Cut = !n.Nodes[i].Cut
			}
			n, _, _ = assembled(t, n, i, get(pick(d, []string{"/a", "/b", "/l"})), now)
		}
	}
}

func TestAssembledPagesShareNoMemory(t *testing.T) {
	o := templates("/a", "("+include("/b")+include("/none")+")", "/b", "b")
	n, _ := impl.NewNetwork(o, []int{-1, 0}, impl.MaxRoom)
	n, _, _ = impl.AssemblePage(n, 1, get("/a"), 10)
	for _, r := range []impl.Request{get("/a"), get("/none", "a", "b"), controlled("/a", "no-cache"), get("/%")} {
		for i := range 3 {
			for _, m := range []impl.Network{n, stocked(), downAt(n, 1), {}} {
				checkApart(t, "AssemblePage", []any{m, r}, func(a []any) []any {
					next, page, ok := impl.AssemblePage(a[0].(impl.Network), i, a[1].(impl.Request), 12)
					return []any{next, page, ok}
				})
			}
		}
		checkApart(t, "AssemblePlain", []any{o, r}, func(a []any) []any {
			page, ok := impl.AssemblePlain(a[0].(impl.Origin), a[1].(impl.Request), 12)
			return []any{page, ok}
		})
	}
}
