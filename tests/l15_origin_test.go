package tests

import (
	"math"
	"reflect"
	"slices"
	"strconv"
	"strings"
	"testing"

	"loop.example/g03012/impl"
)

func version(at int, text string) impl.Version {
	return impl.Version{At: at, Text: text}
}

func gone(at int) impl.Version {
	return impl.Version{At: at, Gone: true}
}

// page has one version from the time 0 on, or those that are given.
func page(target string, versions ...impl.Version) impl.Resource {
	if len(versions) == 0 {
		versions = []impl.Version{version(0, "text")}
	}
	return impl.Resource{Target: target, Control: "max-age=20", Versions: versions}
}

func originOf(pages ...impl.Resource) impl.Origin {
	return impl.Origin{Host: "h", Resources: pages}
}

// site is an origin with a page of each kind.
func site() impl.Origin {
	o := originOf(page("/a", version(5, "one"), version(50, "three")), page("/l"), page("/m"), page("/lm?x&y", version(7, "both")), page("/gone", version(10, "first"), gone(20), version(30, "again")))
	o.Resources[0].Keys = "k1 k2"
	o.Resources[1].Control, o.Resources[1].Langs = "", []string{"de", "en"}
	o.Resources[2].Control, o.Resources[2].Private = "", true
	o.Resources[3].Private, o.Resources[3].Langs, o.Resources[3].Keys = true, []string{"en", "de", "fr"}, "k1"
	return o
}

// someTimes makes versions that follow each other.
func someTimes(n int) []impl.Version {
	l := []impl.Version{}
	for i := range n {
		l = append(l, version(10*i, "v"+strconv.Itoa(i)))
	}
	return l
}

// somePages makes pages with targets of their own.
func somePages(n int) []impl.Resource {
	l := []impl.Resource{}
	for i := range n {
		l = append(l, page("/p"+strconv.Itoa(i)))
	}
	return l
}

func TestLimitsOfOrigins(t *testing.T) {
	if impl.MaxResources != 12 || impl.MaxVersions != 8 || impl.MaxText != 400 {
		t.Error(impl.MaxResources, impl.MaxVersions, impl.MaxText)
	}
}

func TestIsOriginByHostAndPages(t *testing.T) {
	if !impl.IsOrigin(site()) || impl.IsOrigin(impl.Origin{}) {
		t.Error("a site or no host")
	}
	for n := range 16 {
		if got := impl.IsOrigin(originOf(somePages(n)...)); got != (n <= 12) {
			t.Errorf("IsOrigin of %d pages = %v", n, got)
		}
		// Two pages with the same target, at any distance.
		for i := range n {
			again := page("/p" + strconv.Itoa(i))
			again.Control = "no-cache"
			if impl.IsOrigin(originOf(append(somePages(n), again)...)) {
				t.Errorf("IsOrigin of %d pages, the last with the target of page %d = true", n+1, i)
			}
		}
	}
	for host, want := range map[string]bool{"h": true, "a.example-1": true, "-": true, ".": true, strings.Repeat("h", 40): true, strings.Repeat("h", 41): false, "": false, "H": false, "h h": false, " h": false, "h:80": false, "h/": false, "h\xff": false, "h_": false} {
		for _, pages := range [][]impl.Resource{nil, somePages(2)} {
			if got := impl.IsOrigin(impl.Origin{Host: host, Resources: pages}); got != want {
				t.Errorf("IsOrigin of the host %q = %v", host, got)
			}
		}
	}
}

// checkPage looks whether an origin with this page, alone and beside others, is valid just if the page is.
func checkPage(t *testing.T, r impl.Resource, want bool) {
	t.Helper()
	for _, pages := range [][]impl.Resource{{r}, {r, page("/first")}, {page("/first"), r}, {page("/first"), r, page("/last")}} {
		if got := impl.IsOrigin(originOf(pages...)); got != want {
			t.Errorf("IsOrigin of %d pages, one of them %+v = %v", len(pages), r, got)
		}
	}
}

func TestIsOriginByTargets(t *testing.T) {
	for target, want := range map[string]bool{
		"/": true, "/a": true, "/a/": true, "//": true, "/a/b.c": true, "/a?b&c": true, "/a?b=1": true, "/%2F": true, "/a?%26": true, "/...": true,
		// Other ways of writing a target.
		"": false, "a": false, "?a": false, "/.": false, "/..": false, "/a/.": false, "/./a": false, "/a/../b": false, "/a?": false, "/a?&": false, "/a?c&b": false, "/a?b&&c": false, "/%7e": false, "/%41": false, "/%2f": false, "/%": false, "/%4": false, "/?%zz": false,
		"/" + strings.Repeat("t", 99): true, "/" + strings.Repeat("t", 100): false, "/?" + strings.Repeat("q", 98): true, "/?" + strings.Repeat("q", 99): false, "/" + strings.Repeat("%2F", 33): true, "/a" + strings.Repeat("%2F", 33): false,
		// A normal target may have bytes that no request has.
		"/a b": true, "/\xff": true,
	} {
		checkPage(t, impl.Resource{Target: target, Versions: someTimes(1)}, want)
	}
}

func TestIsOriginByControls(t *testing.T) {
	check := func(control string, want bool) {
		t.Helper()
		r := page("/c")
		r.Control = control
		checkPage(t, r, want)
	}
	for control, want := range map[string]bool{"": true, "no-store": true, "max-age=5, public": true, "a\tb": true, "\"a": true, " ": false, "\t": false, " a": false, "a ": false, "\ta": false, "a\t": false, "a\n": false, "a\r\n": false, "\r": false, "ä": false} {
		check(control, want)
	}
	for n := 140; n < 210; n++ {
		check(strings.Repeat("c", n), n <= 150)
	}
	for b := range 256 {
		check("x"+string([]byte{byte(b)})+"y", 32 <= b && b <= 126 || b == '\t')
	}
}

func TestIsOriginByKeys(t *testing.T) {
	check := func(keys string, want bool) {
		t.Helper()
		r := page("/k")
		r.Keys = keys
		checkPage(t, r, want)
	}
	forty := strings.Repeat("k", 40)
	for keys, want := range map[string]bool{
		"": true, "k": true, "K": true, "k1 k2": true, "k k": true, "* -": true, "a b c d": true, forty: true, forty + " " + forty + " " + forty + " " + forty: true,
		"a b c d e": false, "a b c d ": false, " a b c d": false, "a b c d  e": false, forty + "k": false, "a " + forty + "k": false, strings.Repeat("a ", 500) + "a": false,
		" ": false, "  ": false, " a": false, "a ": false, "a  b": false, " a b": false, "a b ": false, "a\tb": false, "a,b": false, "a, b": false, "\"a\"": false, "a/b": false, "ä": false, "a\n": false,
	} {
		check(keys, want)
	}
	for b := range 256 {
		one := string([]byte{byte(b)})
		check("x"+one+"y", b == ' ' || strings.Contains(tokenBytes, one))
		check("a "+one+" b", strings.Contains(tokenBytes, one))
	}
}

func TestIsOriginByLangs(t *testing.T) {
	check := func(want bool, langs ...string) {
		t.Helper()
		r := page("/l")
		r.Langs = langs
		checkPage(t, r, want)
	}
	check(true)
	check(true, "de")
	check(true, "de", "en", "de-at", "12345678")
	check(true, "**", "a*", "-", "`")
	check(false, "de", "en", "fr", "it", "es")
	check(false, "de", "en", "fr", "it", "es", "nl", "pl", "da", "fi")
	// The same language twice.
	check(false, "de", "de")
	check(false, "de", "en", "fr", "de")
	check(false, "en", "de", "de")
	// Capital letters, the star, and what is no token.
	for _, lang := range []string{"DE", "De", "de-AT", "*", "", " ", "d e", "de ", "de,en", "\"de\"", "de;q=1", "ä", "\xff", "123456789", strings.Repeat("l", 40), strings.Repeat("l", 41)} {
		check(false, lang)
		check(false, "de", lang)
		check(false, lang, "en", "fr", "it")
	}
	for b := range 256 {
		one := string([]byte{byte(b)})
		check(strings.Contains(tokenBytes, one) && (b < 'A' || b > 'Z'), "x"+one)
	}
	for n := range 12 {
		check(1 <= n && n <= 8, strings.Repeat("l", n))
	}
}

func TestIsOriginByVersions(t *testing.T) {
	check := func(want bool, versions ...impl.Version) {
		t.Helper()
		checkPage(t, impl.Resource{Target: "/v", Versions: versions}, want)
	}
	for n := range 12 {
		check(1 <= n && n <= 8, someTimes(n)...)
	}
	for at, want := range map[int]bool{0: true, 1: true, impl.MaxTime: true, impl.MaxTime - 1: true, -1: false, impl.MaxTime + 1: false, math.MinInt: false, math.MaxInt: false} {
		check(want, version(at, "v"))
		check(want, gone(at))
	}
	// Times that do not rise.
	check(true, version(0, ""), version(1, ""), version(impl.MaxTime, ""))
	check(false, version(5, "a"), version(5, "b"))
	check(false, version(5, ""), version(4, ""))
	check(false, version(0, ""), version(5, ""), version(5, ""))
	check(false, version(7, ""), version(6, ""), version(8, ""))
	check(false, version(1, ""), version(9, ""), version(8, ""))
	check(false, version(-1, ""), version(5, ""))
	check(false, version(5, ""), version(impl.MaxTime+1, ""))
	check(false, version(5, ""), version(-1, ""))
	// Texts of any bytes, which may be long also when the page is gone.
	for n := 390; n < 410; n++ {
		check(n <= 400, version(3, strings.Repeat("v", n)))
		check(n <= 400, version(3, ""), impl.Version{At: 4, Text: strings.Repeat("\xff", n), Gone: true})
	}
	check(true, version(1, manyBytes()[:400]), version(2, manyBytes()[100:500]))
	check(true, gone(1), gone(2), version(3, "x"), gone(4))
}

func TestFindResource(t *testing.T) {
	o := originOf(page("/a"), page("/b?x"), page("/a"), page(""), page("/B"))
	for target, want := range map[string]int{"/a": 0, "/b?x": 1, "": 3, "/B": 4, "/b": -1, "/b?": -1, "/A": -1, "/./a": -1, "/%61": -1, "a": -1, "/a/": -1, " /a": -1, "\xff": -1} {
		if got := impl.FindResource(o, target); got != want {
			t.Errorf("FindResource(%q) = %d, want %d", target, got, want)
		}
		if got := impl.FindResource(impl.Origin{}, target); got != -1 {
			t.Errorf("FindResource of no pages = %d", got)
		}
	}
	for i, r := range site().Resources {
		if got := impl.FindResource(site(), r.Target); got != i {
			t.Errorf("FindResource(%q) = %d, want %d", r.Target, got, i)
		}
	}
}

func TestVersionAt(t *testing.T) {
	r := page("/", version(5, ""), version(20, ""), gone(21), version(50, ""))
	for at, want := range map[int]int{math.MinInt: -1, -1: -1, 0: -1, 4: -1, 5: 0, 6: 0, 19: 0, 20: 1, 21: 2, 22: 2, 49: 2, 50: 3, 51: 3, impl.MaxTime: 3, impl.MaxTime + 1: 3, math.MaxInt: 3} {
		if got := impl.VersionAt(r, at); got != want {
			t.Errorf("VersionAt(%d) = %d, want %d", at, got, want)
		}
		if got := impl.VersionAt(impl.Resource{}, at); got != -1 {
			t.Errorf("VersionAt(%d) of no versions = %d", at, got)
		}
	}
	// Any lists: the last version whose time has come.
	textsOf("1357", 5, func(times string) {
		r := impl.Resource{}
		for _, at := range times {
			r.Versions = append(r.Versions, version(int(at-'0'), ""))
		}
		for at := range 9 {
			want := -1
			for i, v := range slices.Backward(r.Versions) {
				if v.At <= at {
					want = i
					break
				}
			}
			if got := impl.VersionAt(r, at); got != want {
				t.Fatalf("VersionAt(%v, %d) = %d, want %d", r.Versions, at, got, want)
			}
		}
	})
	edges := impl.Resource{Versions: []impl.Version{version(math.MaxInt, ""), version(math.MinInt, "")}}
	if impl.VersionAt(edges, math.MinInt) != 1 || impl.VersionAt(edges, math.MaxInt) != 1 || impl.VersionAt(impl.Resource{Versions: edges.Versions[:1]}, math.MaxInt) != 0 {
		t.Error("VersionAt at the ends of the numbers")
	}
}

func TestVisitorOf(t *testing.T) {
	twenty := strings.Repeat("u", 20)
	for _, x := range []struct {
		r    impl.Request
		want string
	}{
		{impl.Request{}, ""}, {request("GET", "h", "/", "authorization", "u1"), "u1"}, {request("GET", "h", "/", "authorization", "U1"), "U1"}, {request("GET", "h", "/", "authorization", "*"), "*"}, {request("GET", "h", "/", "a", "b", "authorization", twenty), twenty}, {request("GET", "h", "/", "authorization", twenty+"u"), ""}, {request("GET", "h", "/", "authorization", strings.Repeat("u", 40)), ""},
		// What is no token.
		{request("GET", "h", "/", "authorization", ""), ""}, {request("GET", "h", "/", "authorization", "Bearer x"), ""}, {request("GET", "h", "/", "authorization", "\"u\""), ""}, {request("GET", "h", "/", "authorization", "u=1"), ""}, {request("GET", "h", "/", "authorization", "ü"), ""}, {request("GET", "h", "/", "authorization", "u,v"), ""},
		// The field twice, and elements that are empty.
		{request("GET", "h", "/", "authorization", "u", "authorization", "v"), ""}, {request("GET", "h", "/", "authorization", "u", "authorization", "u"), ""}, {request("GET", "h", "/", "authorization", "u", "authorization", ""), "u"}, {request("GET", "h", "/", "authorization", "", "a", "v", "authorization", "u"), "u"}, {request("GET", "h", "/", "authorization", " \tu ,, "), "u"}, {request("GET", "h", "/", "authorization", ","), ""},
		// Other names.
		{request("GET", "h", "/", "Authorization", "u"), ""}, {request("GET", "h", "/", "authorizatio", "u", "authorizations", "u"), ""},
	} {
		if got := impl.VisitorOf(x.r); got != x.want {
			t.Errorf("VisitorOf(%q) = %q, want %q", x.r.Fields, got, x.want)
		}
	}
	for b := range 256 {
		one := string([]byte{byte(b)})
		want := ""
		if strings.Contains(tokenBytes, one) {
			want = "x" + one + "y"
		}
		if got := impl.VisitorOf(request("GET", "h", "/", "authorization", "x"+one+"y")); got != want {
			t.Errorf("VisitorOf %q = %q", "x"+one+"y", got)
		}
	}
}

func TestVariantOf(t *testing.T) {
	langs := []string{"de", "en", "fr"}
	for _, x := range []struct {
		langs   []string
		private bool
		r       impl.Request
		lang    string
		visitor string
	}{
		{nil, false, impl.Request{}, "", ""}, {nil, true, impl.Request{}, "", ""}, {langs, false, impl.Request{}, "de", ""}, {langs, true, impl.Request{}, "de", ""},
		// No languages, whatever the request asks for.
		{nil, false, request("GET", "h", "/", "accept-language", "en", "authorization", "u"), "", ""}, {nil, true, request("GET", "h", "/", "accept-language", "en", "authorization", "u"), "", "u"},
		{langs, false, request("GET", "h", "/", "accept-language", "en", "authorization", "u"), "en", ""}, {langs, true, request("GET", "h", "/", "accept-language", "en", "authorization", "u"), "en", "u"}, {langs, true, request("GET", "h", "/", "accept-language", "en", "authorization", "u v"), "en", ""},
		// The languages that a request likes best.
		{langs, false, request("GET", "h", "/", "accept-language", ""), "de", ""}, {langs, false, request("GET", "h", "/", "accept-language", "it"), "de", ""}, {langs, false, request("GET", "h", "/", "accept-language", "de;q=0.5, FR;q=0.6"), "fr", ""}, {langs, false, request("GET", "h", "/", "accept-language", "de;q=0.5, *;q=0.6"), "en", ""}, {langs, false, request("GET", "h", "/", "accept-language", "de;q=0", "accept-language", "fr"), "fr", ""}, {langs, false, request("GET", "h", "/", "accept-language", "fr;q=2, en;q=0.1"), "en", ""}, {langs, false, request("GET", "h", "/", "Accept-Language", "en", "accept", "fr", "language", "en"), "de", ""}, {[]string{"en"}, false, request("GET", "h", "/", "accept-language", "de, en;q=0"), "en", ""},
	} {
		lang, visitor := impl.VariantOf(impl.Resource{Langs: x.langs, Private: x.private}, x.r)
		if lang != x.lang || visitor != x.visitor {
			t.Errorf("VariantOf(%q, %v, %q) = %q, %q, want %q, %q", x.langs, x.private, x.r.Fields, lang, visitor, x.lang, x.visitor)
		}
	}
}

// copyBy returns an origin that has the same lists in memory of their own.
func copyBy(o impl.Origin) impl.Origin {
	o.Resources = slices.Clone(o.Resources)
	for i, r := range o.Resources {
		o.Resources[i].Langs, o.Resources[i].Versions = slices.Clone(r.Langs), slices.Clone(r.Versions)
	}
	return o
}

// sameOrigin takes no lists and empty ones for the same.
func sameOrigin(a impl.Origin, b impl.Origin) bool {
	return a.Host == b.Host && slices.EqualFunc(a.Resources, b.Resources, func(a impl.Resource, b impl.Resource) bool {
		langs, versions := slices.Equal(a.Langs, b.Langs), slices.Equal(a.Versions, b.Versions)
		a.Langs, a.Versions, b.Langs, b.Versions = nil, nil, nil, nil
		return langs && versions && reflect.DeepEqual(a, b)
	})
}

func TestPublishPage(t *testing.T) {
	full := originOf(page("/f", someTimes(8)...), page("/a"))
	broken := site()
	broken.Resources[1].Keys = " "
	for _, x := range []struct {
		o      impl.Origin
		target string
		v      impl.Version
		at     int
	}{
		{site(), "/a", version(60, "four"), 0}, {site(), "/a", version(51, ""), 0}, {site(), "/a", gone(impl.MaxTime), 0}, {site(), "/l", version(1, strings.Repeat("v", 400)), 1}, {site(), "/m", version(2, "\xff"), 2}, {site(), "/lm?x&y", version(8, "x"), 3}, {site(), "/gone", gone(31), 4}, {full, "/a", version(5, ""), 1}, {originOf(page("/s", someTimes(7)...)), "/s", version(61, ""), 0},
		// At the time of the last version and before it.
		{site(), "/a", version(50, "four"), -1}, {site(), "/a", version(49, "four"), -1}, {site(), "/a", version(5, "x"), -1}, {site(), "/l", version(0, "x"), -1}, {site(), "/l", version(-1, "x"), -1}, {site(), "/l", version(math.MinInt, "x"), -1},
		// Beyond a limit.
		{site(), "/a", version(impl.MaxTime+1, "x"), -1}, {site(), "/a", version(math.MaxInt, "x"), -1}, {site(), "/a", version(60, strings.Repeat("v", 401)), -1}, {full, "/f", version(1000, "x"), -1},
		// Targets that no page has, and origins that are none.
		{site(), "/x", version(60, "x"), -1}, {site(), "", version(60, "x"), -1}, {site(), "/./a", version(60, "x"), -1}, {site(), "/lm?y&x", version(60, "x"), -1}, {site(), "/A", version(60, "x"), -1}, {impl.Origin{}, "/a", version(60, "x"), -1}, {originOf(), "/a", version(60, "x"), -1}, {impl.Origin{Resources: site().Resources}, "/a", version(60, "x"), -1}, {broken, "/a", version(60, "x"), -1}, {broken, "/l", version(60, "x"), -1}, {originOf(page("/a"), page("/a")), "/a", version(60, "x"), -1}, {originOf(impl.Resource{Target: "/e"}), "/e", version(60, "x"), -1}, {originOf(somePages(13)...), "/p0", version(60, "x"), -1},
	} {
		kept, want := copyBy(x.o), copyBy(x.o)
		if x.at >= 0 {
			want.Resources[x.at].Versions = append(want.Resources[x.at].Versions, x.v)
		}
		got, ok := impl.PublishPage(x.o, x.target, x.v)
		if !sameOrigin(got, want) || ok != (x.at >= 0) {
			t.Errorf("PublishPage(%+v, %q, %+v) = %+v, %v, want %+v", x.o, x.target, x.v, got, ok, want)
		}
		if !sameOrigin(x.o, kept) {
			t.Errorf("PublishPage changes its argument to %+v", x.o)
		}
	}
}

// A version that is published changes nothing before its time, nor on other pages, and holds from its time on.
func TestAVersionThatIsPublishedChangesNothingBeforeItsTime(t *testing.T) {
	for k, r := range site().Resources {
		last := r.Versions[len(r.Versions)-1].At
		for at := last + 1; at < last+40; at += 13 {
			o, ok := impl.PublishPage(site(), r.Target, version(at, "new"))
			if !ok || !impl.IsOrigin(o) {
				t.Fatalf("PublishPage of %q at %d = %v, %v", r.Target, at, o, ok)
			}
			for i, before := range site().Resources {
				after := o.Resources[i]
				for now := -2; now < 120; now++ {
					was, is := impl.VersionAt(before, now), impl.VersionAt(after, now)
					if i == k && now >= at {
						if is != len(before.Versions) || after.Versions[is] != version(at, "new") {
							t.Fatalf("version %d of %q holds at %d, not the new one", is, r.Target, now)
						}
					} else if is != was || is >= 0 && after.Versions[is] != before.Versions[was] {
						t.Fatalf("version %d of %q holds at %d, not %d", is, before.Target, now, was)
					}
				}
			}
		}
	}
}

// roomyOrigin returns the origin with lists that have room behind them, in which something stands.
func roomyOrigin(o impl.Origin) impl.Origin {
	o.Resources = append(slices.Clone(o.Resources), page("/room"), page("/room"))[:len(o.Resources)]
	for i := range o.Resources {
		r := &o.Resources[i]
		r.Langs = append(slices.Clone(r.Langs), "room", "room")[:len(r.Langs)]
		r.Versions = append(slices.Clone(r.Versions), version(77, "room"), version(78, "room"))[:len(r.Versions)]
	}
	return o
}

// stretched returns a copy of an origin that also has what stands in the room behind its lists.
func stretched(o impl.Origin) impl.Origin {
	o.Resources = slices.Clone(o.Resources[:cap(o.Resources)])
	for i := range o.Resources {
		r := &o.Resources[i]
		r.Langs, r.Versions = slices.Clone(r.Langs[:cap(r.Langs)]), slices.Clone(r.Versions[:cap(r.Versions)])
	}
	return o
}

// scribble writes over all that belongs to an origin.
func scribble(o impl.Origin) {
	pages := o.Resources[:cap(o.Resources)]
	for i := range pages {
		clear(pages[i].Langs[:cap(pages[i].Langs)])
		clear(pages[i].Versions[:cap(pages[i].Versions)])
	}
	clear(pages)
}

func TestOriginsShareNoMemory(t *testing.T) {
	for _, x := range []struct {
		target string
		v      impl.Version
	}{{"/a", version(60, "new")}, {"/lm?x&y", gone(60)}, {"/gone", version(60, "new")}, {"/a", version(5, "late")}, {"/none", version(60, "new")}} {
		o := roomyOrigin(site())
		kept := stretched(o)
		first, _ := impl.PublishPage(o, x.target, x.v)
		second, _ := impl.PublishPage(o, x.target, x.v)
		result := copyBy(second)
		if !reflect.DeepEqual(stretched(o), kept) {
			t.Errorf("PublishPage of %q changes its argument", x.target)
		}
		scribble(first)
		if !reflect.DeepEqual(stretched(o), kept) {
			t.Errorf("PublishPage of %q shares memory with its argument", x.target)
		}
		if !sameOrigin(second, result) {
			t.Errorf("PublishPage of %q shares memory with another result", x.target)
		}
	}
	o := roomyOrigin(site())
	kept := stretched(o)
	r := request("GET", "h", "/a", "accept-language", "en", "authorization", "u")
	impl.IsOrigin(o)
	impl.FindResource(o, "/a")
	for _, p := range o.Resources {
		impl.VersionAt(p, 30)
		impl.VariantOf(p, r)
	}
	impl.VisitorOf(r)
	if !reflect.DeepEqual(stretched(o), kept) || !sameRequest(r, request("GET", "h", "/a", "accept-language", "en", "authorization", "u")) {
		t.Error("an argument has changed")
	}
}
