package tests

import (
	"math"
	"slices"
	"strconv"
	"strings"
	"testing"

	"loop.example/g03012/impl"
)

// shop is an origin with a page for each way in which caches use it.
func shop() impl.Origin {
	o := originOf(page("/a", version(5, "one"), version(50, "three")), page("/l"), page("/m"), page("/late", version(5, "slow"), version(50, "slower")), page("/strict"), page("/never"), page("/always", version(5, "old"), version(50, "new")), page("/long", version(5, pageText(60)), version(50, pageText(80)[20:])), page("/gone", version(10, "first"), gone(20), version(30, "again")), page("/q?x&y"))
	controls := []string{"max-age=20", "", "max-age=20", "max-age=10, stale-while-revalidate=5, stale-if-error=30", "max-age=10, must-revalidate", "no-store, max-age=20", "no-cache", "s-maxage=100", "max-age=20", "max-age=20"}
	for i := range o.Resources {
		o.Resources[i].Control = controls[i]
	}
	o.Resources[0].Keys, o.Resources[1].Langs, o.Resources[2].Private = "k1 k2", []string{"de", "en"}, true
	return o
}

// networkOf is a network with the shop as origin, and nodes that ask these.
func networkOf(ups ...int) impl.Network {
	n, _ := impl.NewNetwork(shop(), ups, impl.MaxRoom)
	return n
}

// model answers requests by the rules of the chapter, one after the other.
type model struct {
	n   impl.Network
	now int
}

func errorBy(r impl.Request, code int, body string) impl.Response {
	if r.Method == "HEAD" {
		body = ""
	}
	return answer(code, body, "cache-control", "no-store")
}

func originBy(n impl.Network, r impl.Request, now int) impl.Response {
	x := impl.PlainAnswer(n.Origin, r, now)
	if _, has := valuesBy(x.Fields, "date"); has {
		x.Fields = append(x.Fields, pairs("x-purge", strconv.Itoa(n.Seq))...)
	}
	return impl.FinishAnswer(r, x)
}

func (m *model) asks(i int, r impl.Request) impl.Response {
	switch node := m.n.Nodes[i]; {
	case node.Cut:
		return errorBy(r, 504, "cut")
	case node.Up == -1:
		m.n.Asks = min(m.n.Asks+1, impl.MaxValue)
		return originBy(m.n, r, m.now)
	default:
		return m.answers(node.Up, r)
	}
}

func (m *model) gets(i int, r impl.Request) impl.Response {
	x := m.asks(i, r)
	if impl.HitsAnswer(m.n.Nodes[i].Purges, r, x) {
		x = m.asks(i, impl.Request{Method: r.Method, Host: r.Host, Target: r.Target, Fields: impl.SetField(r.Fields, "cache-control", "no-cache")})
	}
	return x
}

func (m *model) puts(i int, e impl.Entry, ok bool) {
	node := &m.n.Nodes[i]
	if !ok || impl.HitsEntry(node.Purges, e) {
		return
	}
	if len(node.Store.Entries) == 12 {
		worth := []int{}
		for _, e := range node.Store.Entries {
			worth = append(worth, impl.EstimateKey(node.Sketch, e.Key))
		}
		node.Store = impl.DropEntry(node.Store, slices.Index(worth, slices.Min(worth)))
	}
	node.Store = impl.EvictEntries(impl.PutEntry(node.Store, e), node.Sketch, node.Room)
}

func (m *model) putsAnswer(i int, r impl.Request, x impl.Response) {
	e, ok := impl.EntryOf(r, x, m.now, m.now)
	m.puts(i, e, ok)
}

func (m *model) fetches(i int, r impl.Request) impl.Response {
	x := m.gets(i, r)
	m.putsAnswer(i, r, x)
	return x
}

// bareBy is the bare request with more fields behind the others.
func bareBy(r impl.Request, more ...string) impl.Request {
	dropped := []string{"range", "if-match", "if-none-match", "if-modified-since", "if-unmodified-since", "if-range"}
	l := slices.DeleteFunc(slices.Clone(r.Fields), func(f impl.Field) bool { return slices.Contains(dropped, f.Name) })
	return impl.Request{Method: "GET", Host: r.Host, Target: r.Target, Fields: append(l, pairs(more...)...)}
}

func (m *model) answers(i int, r impl.Request) impl.Response {
	node := &m.n.Nodes[i]
	key, hasKey := impl.KeyOf(r)
	action := impl.RuleFor(node.Policy, r).Action
	switch {
	case node.Down:
		return errorBy(r, 502, "down")
	case len(r.Fields) > 20:
		return errorBy(r, 431, "fields")
	case action == impl.ActionDeny:
		return errorBy(r, 403, "denied")
	case !hasKey, action == impl.ActionPass, r.Method == "OPTIONS":
		return m.gets(i, r)
	case r.Method != "GET" && r.Method != "HEAD":
		x := m.gets(i, r)
		if x.Code < 400 {
			node.Store = impl.DropKey(node.Store, key)
		}
		return x
	}
	node.Sketch = impl.TouchKey(node.Sketch, key)
	at := impl.FindEntry(node.Store, r)
	if at < 0 {
		return m.fetches(i, r)
	}
	e := node.Store.Entries[at]
	stored, ok := impl.AnswerOf(e, r, m.now)
	switch impl.PlanFor(r, e.Head, impl.EntryAge(e, m.now), impl.LifeUnder(node.Policy, r, e.Head)) {
	case impl.GiveUp:
		return errorBy(r, 504, "unknown")
	case impl.CheckIt:
		return m.checks(i, r, e)
	case impl.UseStale:
		if ok {
			m.checks(i, r, e)
		}
	}
	if !ok {
		return m.fills(i, r, e)
	}
	return stored
}

func (m *model) checks(i int, r impl.Request, e impl.Entry) impl.Response {
	node := &m.n.Nodes[i]
	asked := bareBy(r)
	etag, _ := valuesBy(e.Head.Fields, "etag")
	if _, isTag := tagBy(etag); isTag {
		asked = bareBy(r, "if-none-match", etag)
	}
	x := m.gets(i, asked)
	if x.Code == 304 {
		fresh, ok := impl.FreshenEntry(e, x, m.now, m.now)
		if !ok {
			return errorBy(r, 502, "bad")
		}
		m.puts(i, fresh, true)
		y, ok := impl.AnswerOf(fresh, r, m.now)
		if !ok {
			return m.fills(i, r, fresh)
		}
		return y
	}
	if x.Code >= 500 {
		stored, ok := impl.AnswerOf(e, r, m.now)
		if ok && impl.MayUseOnError(r, e.Head, impl.EntryAge(e, m.now), impl.LifeUnder(node.Policy, r, e.Head)) {
			return stored
		}
		return impl.FinishAnswer(r, x)
	}
	node.Store.Entries = slices.DeleteFunc(slices.Clone(node.Store.Entries), func(f impl.Entry) bool { return inPlaceOf(e, f) })
	m.putsAnswer(i, asked, x)
	return impl.FinishAnswer(r, x)
}

func (m *model) fills(i int, r impl.Request, e impl.Entry) impl.Response {
	missing := impl.MissingSpans(impl.SpansOf(e.Pieces), span(0, e.Length))
	if len(missing) > 6 {
		return m.fetches(i, r)
	}
	ranges := []string{}
	for _, x := range missing {
		ranges = append(ranges, strconv.Itoa(x.From)+"-"+strconv.Itoa(x.To-1))
	}
	etag, _ := valuesBy(e.Head.Fields, "etag")
	asked := bareBy(r, "range", "bytes="+strings.Join(ranges, ", "), "if-range", etag)
	got, ok := impl.EntryOf(asked, m.gets(i, asked), m.now, m.now)
	if ok {
		m.puts(i, got, true)
		both, _ := impl.CombineEntry(e, got)
		x, ok := impl.AnswerOf(both, r, m.now)
		if ok {
			return x
		}
	}
	return m.fetches(i, r)
}

// fetched looks whether FetchPage gives the network and the answer that the model gives, and keeps the argument.
func fetched(t *testing.T, n impl.Network, i int, r impl.Request, now int) (impl.Network, impl.Response) {
	t.Helper()
	m := model{n: copied(n), now: now}
	want := m.answers(i, r)
	before := copied(n)
	got, x := impl.FetchPage(n, i, r, now)
	if !sameAnswer(x, want) || !alike(got, m.n) {
		t.Fatalf("FetchPage(%+v, %d, %q, %d) = %+v, %#v, want %+v, %#v", n, i, r, now, got, x, m.n, want)
	}
	if !alike(n, before) {
		t.Fatalf("FetchPage changes its argument to %+v", n)
	}
	return got, x
}

// visit is what a node should answer to a request at a time, with how many asks of the origin. The age -1 stands for no such field.
type visit struct {
	node int
	now  int
	r    impl.Request
	code int
	body string
	age  int
	asks int
}

// checkVisits performs visits one after the other.
func checkVisits(t *testing.T, n impl.Network, l ...visit) impl.Network {
	t.Helper()
	for i, v := range l {
		next, x := fetched(t, n, v.node, v.r, v.now)
		age := -1
		if value, has := valuesBy(x.Fields, "age"); has {
			age, _ = strconv.Atoi(value)
		}
		if x.Code != v.code || x.Body != v.body || age != v.age || next.Asks-n.Asks != v.asks {
			t.Errorf("visit %d, of %d with %q at %d, gives %d %q of age %d with %d asks, want %d %q of age %d with %d", i, v.node, v.r, v.now, x.Code, x.Body, age, next.Asks-n.Asks, v.code, v.body, v.age, v.asks)
		}
		if !impl.IsNetwork(next) {
			t.Errorf("after visit %d, of %d with %q at %d, %+v is no network", i, v.node, v.r, v.now, next)
		}
		n = next
	}
	return n
}

func get(target string, fields ...string) impl.Request {
	return request("GET", "h", target, fields...)
}

func head(target string, fields ...string) impl.Request {
	return request("HEAD", "h", target, fields...)
}

func TestLimitsOfNetworks(t *testing.T) {
	if impl.MaxNodes != 5 || impl.MaxRoom != 5000 {
		t.Error(impl.MaxNodes, impl.MaxRoom)
	}
}

// stocked is a network whose nodes have something of each kind.
func stocked() impl.Network {
	n := networkOf(-1, 0, 0, 1, -1)
	for i, r := range []impl.Request{get("/a"), get("/l", "accept-language", "en"), get("/long", "range", "bytes=2-9"), get("/gone")} {
		n, _ = impl.FetchPage(n, 3-i%2, r, 10+i)
	}
	n, p, _ := impl.IssuePurge(n, impl.PurgeKey, "h/gone")
	n, q, _ := impl.IssuePurge(n, impl.PurgeName, "nobody")
	n, _ = impl.DeliverPurge(n, 3, q)
	n, _ = impl.DeliverPurge(n, 1, p)
	n.Nodes[2].Policy = []impl.Rule{rule(1, "/x", 0), rule(2, "/", 50)}
	n.Nodes[4].Room = 0
	return n
}

func TestIsNetwork(t *testing.T) {
	check := func(what string, want bool, change func(n *impl.Network)) {
		t.Helper()
		n := copied(stocked())
		change(&n)
		if got := impl.IsNetwork(n); got != want {
			t.Errorf("IsNetwork with %s = %v", what, got)
		}
	}
	check("nothing changed", true, func(n *impl.Network) {})
	check("nothing at all", false, func(n *impl.Network) { *n = impl.Network{} })
	check("no nodes", false, func(n *impl.Network) { n.Nodes = nil })
	check("no pages", true, func(n *impl.Network) { n.Origin.Resources = nil })
	check("no host", false, func(n *impl.Network) { n.Origin.Host = "" })
	check("a bad page", false, func(n *impl.Network) { n.Origin.Resources[2].Versions = nil })
	for seq, want := range map[int]bool{math.MinInt: false, -1: false, 0: false, 1: false, 2: true, 3: true, impl.MaxValue: true, impl.MaxValue + 1: false, math.MaxInt: false} {
		check("another Seq", want, func(n *impl.Network) { n.Seq = seq })
	}
	for asks, want := range map[int]bool{math.MinInt: false, -1: false, 0: true, 9: true, impl.MaxValue: true, impl.MaxValue + 1: false, math.MaxInt: false} {
		check("other Asks", want, func(n *impl.Network) { n.Asks = asks })
	}
	for count := range 9 {
		empty := networkOf(-1)
		empty.Nodes = slices.Repeat(empty.Nodes, count)
		if got := impl.IsNetwork(empty); got != (1 <= count && count <= 5) {
			t.Errorf("IsNetwork of %d nodes = %v", count, got)
		}
	}
	for i := range 5 {
		for _, up := range []int{math.MinInt, -2, -1, 0, 1, 2, 3, 4, 5, math.MaxInt} {
			check("node "+strconv.Itoa(i)+" that asks "+strconv.Itoa(up), -1 <= up && up < i, func(n *impl.Network) { n.Nodes[i].Up = up })
		}
		at := " in node " + strconv.Itoa(i)
		for what, change := range map[string]func(n *impl.Node){
			"an invalid entry": func(n *impl.Node) { n.Store = storeOf(impl.Entry{}) }, "twins": func(n *impl.Node) { n.Store, n.Room = storeOf(kept("k", 1), kept("k", 2)), 100 }, "too many entries": func(n *impl.Node) { n.Store, n.Room = storeOf(someEntries(13)...), 500 }, "an entry of a later stamp": func(n *impl.Node) { n.Store, n.Room = storeOf(answered("k", 3)), 100 }, "a purged entry": func(n *impl.Node) {
				n.Store, n.Room, n.Purges = storeOf(answered("k", 1)), 100, []impl.Purge{purge(2, 1, "")}
			}, "too few bytes": func(n *impl.Node) { n.Store, n.Room = storeOf(answered("k", 1)), 9 },
			"a bad sketch": func(n *impl.Node) { n.Sketch = impl.Sketch{Total: 64} }, "purges of another order": func(n *impl.Node) { n.Purges = []impl.Purge{purge(2, 2, "x"), purge(1, 2, "x")} }, "an invalid purge": func(n *impl.Node) { n.Purges = []impl.Purge{purge(1, 0, "")} }, "a purge from the future": func(n *impl.Node) { n.Purges = []impl.Purge{purge(1, 2, "x"), purge(3, 2, "x")} }, "a bad policy": func(n *impl.Node) { n.Policy = []impl.Rule{rule(1, "/", 0), rule(1, "", 0)} }, "no room": func(n *impl.Node) { n.Store, n.Room = storeOf(), -1 }, "too much room": func(n *impl.Node) { n.Room = 5001 },
		} {
			check(what+at, false, func(n *impl.Network) { change(&n.Nodes[i]) })
		}
		for what, change := range map[string]func(n *impl.Node){
			"both down and cut": func(n *impl.Node) { n.Down, n.Cut = true, true }, "just enough bytes": func(n *impl.Node) { n.Store, n.Room, n.Purges = storeOf(answered("k", 1)), 10, nil }, "an entry of the last stamp": func(n *impl.Node) {
				n.Store, n.Room, n.Purges = storeOf(answered("k", 2)), 100, []impl.Purge{purge(2, 1, "")}
			}, "a sketch": func(n *impl.Node) { n.Sketch = counted(64, 63) }, "rules": func(n *impl.Node) { n.Policy = slices.Repeat([]impl.Rule{rule(3, "/", 0)}, 8) }, "all room": func(n *impl.Node) { n.Room = 5000 }, "an empty entry without room": func(n *impl.Node) { n.Store, n.Room = storeOf(impl.Entry{Head: answer(200, "", "date", stamp(1))}), 0 },
		} {
			check(what+at, true, func(n *impl.Network) { n.Nodes[i].Purges = nil; change(&n.Nodes[i]) })
		}
	}
}

func TestNewNetwork(t *testing.T) {
	for _, x := range []struct {
		o    impl.Origin
		ups  []int
		room int
		want bool
	}{
		{shop(), []int{-1}, 0, true}, {shop(), []int{-1, 0, 1, 2, 3}, 5000, true}, {shop(), []int{-1, 0, 0, 1, 1}, 77, true}, {shop(), []int{-1, -1, -1}, 1, true}, {originOf(), []int{-1}, 1, true},
		{shop(), nil, 1, false}, {shop(), []int{-1, 0, 1, 2, 3, 4}, 1, false}, {shop(), []int{0}, 1, false}, {shop(), []int{-2}, 1, false}, {shop(), []int{-1, 1}, 1, false}, {shop(), []int{-1, 2, 0}, 1, false}, {shop(), []int{-1, math.MaxInt}, 1, false}, {shop(), []int{-1}, -1, false}, {shop(), []int{-1}, 5001, false}, {impl.Origin{}, []int{-1}, 1, false}, {originOf(page("/a"), page("/a")), []int{-1}, 1, false},
	} {
		want := impl.Network{}
		if x.want {
			want.Origin = x.o
			for _, up := range x.ups {
				want.Nodes = append(want.Nodes, impl.Node{Up: up, Room: x.room})
			}
		}
		if got, ok := impl.NewNetwork(x.o, x.ups, x.room); !alike(got, want) || ok != x.want {
			t.Errorf("NewNetwork(%v, %d) = %+v, %v", x.ups, x.room, got, ok)
		}
	}
}

func TestOriginAnswer(t *testing.T) {
	n := networkOf(-1)
	n.Seq, n.Asks = 7, 5
	for _, x := range []struct {
		r    impl.Request
		now  int
		want impl.Response
	}{
		{get("/a"), 10, answer(200, "one", "date", stamp(10), "last-modified", stamp(5), "etag", `"0//"`, "cache-control", "max-age=20", "surrogate-key", "k1 k2", "x-purge", "7")}, {head("/x/../a"), 50, answer(200, "", "date", stamp(50), "last-modified", stamp(50), "etag", `"1//"`, "cache-control", "max-age=20", "surrogate-key", "k1 k2", "x-purge", "7")}, {get("/a", "range", "bytes=1-"), 10, answer(206, "ne", "date", stamp(10), "last-modified", stamp(5), "etag", `"0//"`, "cache-control", "max-age=20", "surrogate-key", "k1 k2", "x-purge", "7", "content-range", "bytes 1-2/3")}, {get("/a", "if-none-match", `"0//"`), 10, answer(304, "", "date", stamp(10), "etag", `"0//"`, "cache-control", "max-age=20", "surrogate-key", "k1 k2", "x-purge", "7")},
		{get("/a"), 4, answer(404, "none", "date", stamp(4), "cache-control", "max-age=10", "x-purge", "7")}, {head("/gone"), 20, answer(410, "", "date", stamp(20), "cache-control", "max-age=10", "x-purge", "7")}, {request("POST", "h", "/a"), 10, answer(405, "method", "date", stamp(10), "cache-control", "no-store", "x-purge", "7")},
		// Without a date there is no stamp either.
		{get("/%"), 10, answer(400, "bad", "cache-control", "no-store")}, {request("HEAD", "other", "/a"), 10, answer(400, "", "cache-control", "no-store")}, {get("/a"), -1, answer(400, "bad", "cache-control", "no-store")}, {get("/a"), impl.MaxTime + 1, answer(400, "bad", "cache-control", "no-store")}, {impl.Request{}, 10, answer(400, "bad", "cache-control", "no-store")},
	} {
		if got := impl.OriginAnswer(n, x.r, x.now); !sameAnswer(got, x.want) || !sameAnswer(originBy(n, x.r, x.now), x.want) {
			t.Errorf("OriginAnswer(%q, %d) = %#v, want %#v", x.r, x.now, got, x.want)
		}
	}
	// Networks that are none.
	if got := impl.OriginAnswer(impl.Network{}, get("/a"), 10); !sameAnswer(got, answer(400, "bad", "cache-control", "no-store")) {
		t.Error(got)
	}
	n = impl.Network{Origin: shop(), Seq: -5, Asks: -9}
	if got := impl.OriginAnswer(n, get("/none"), 10); !sameAnswer(got, answer(404, "none", "date", stamp(10), "cache-control", "max-age=10", "x-purge", "-5")) {
		t.Error(got)
	}
}

func TestFetchPageFails(t *testing.T) {
	bad := stocked()
	bad.Nodes[4].Room = -1
	for _, x := range []struct {
		n   impl.Network
		i   int
		now int
	}{
		{stocked(), -1, 10}, {stocked(), 5, 10}, {stocked(), math.MinInt, 10}, {stocked(), math.MaxInt, 10}, {stocked(), 0, -1}, {stocked(), 0, impl.MaxTime + 1}, {stocked(), 0, math.MinInt}, {stocked(), 0, math.MaxInt}, {bad, 0, 10}, {impl.Network{}, 0, 10},
	} {
		for _, r := range []impl.Request{get("/a"), head("/a"), request("POST", "h", "/a"), {}} {
			n, y := impl.FetchPage(x.n, x.i, r, x.now)
			if !alike(n, x.n) || !sameAnswer(y, errorBy(r, 502, "none")) {
				t.Errorf("FetchPage(%+v, %d, %q, %d) = %+v, %#v", x.n, x.i, r, x.now, n, y)
			}
		}
	}
	// The first and the last second.
	checkVisits(t, networkOf(-1, 0), visit{1, 0, get("/a"), 404, "none", -1, 1}, visit{1, 0, get("/a"), 404, "none", 0, 0}, visit{1, impl.MaxTime, get("/a"), 200, "three", -1, 1}, visit{1, impl.MaxTime, get("/a"), 200, "three", 0, 0})
	// Time that goes back: what was stored later is as old as it was then.
	checkVisits(t, networkOf(-1, 0), visit{1, 60, get("/a"), 200, "three", -1, 1}, visit{1, 40, get("/a"), 200, "three", 0, 0}, visit{0, 0, get("/a"), 200, "three", 0, 0})
	// The origin may have been asked as often as can be counted.
	n := networkOf(-1)
	n.Asks = impl.MaxValue
	n = checkVisits(t, n, visit{0, 10, get("/a"), 200, "one", -1, 0}, visit{0, 40, get("/a"), 200, "one", 0, 0})
	n.Asks = impl.MaxValue - 1
	checkVisits(t, n, visit{0, 70, get("/a"), 200, "three", -1, 1}, visit{0, 95, get("/a"), 200, "three", 0, 0})
}

func TestNodesInARow(t *testing.T) {
	n := checkVisits(t, networkOf(-1, 0, 1, 2, 3),
		// Each node stores what it gets, and is asked only if it must be.
		visit{4, 10, get("/a"), 200, "one", -1, 1}, visit{4, 15, get("/a"), 200, "one", 5, 0}, visit{2, 29, get("/a"), 200, "one", 19, 0}, visit{0, 29, get("/a"), 200, "one", 19, 0},
		// The first node checks; those behind get what it has then.
		visit{0, 30, get("/a"), 200, "one", 0, 1}, visit{4, 35, get("/a"), 200, "one", 5, 0}, visit{3, 35, get("/a"), 200, "one", 5, 0},
		// Another version.
		visit{4, 55, get("/a"), 200, "three", -1, 1}, visit{4, 56, get("/a"), 200, "three", 1, 0}, visit{1, 60, get("/a"), 200, "three", 5, 0},
	)
	for i, node := range n.Nodes {
		if len(node.Store.Entries) != 1 || node.Store.Entries[0].Got != 55 {
			t.Errorf("node %d has %+v", i, node.Store)
		}
	}
	// An answer is not younger for having been stored on the way.
	checkVisits(t, networkOf(-1, 0, 1), visit{0, 10, get("/a"), 200, "one", -1, 1}, visit{2, 22, get("/a"), 200, "one", 12, 0}, visit{2, 29, get("/a"), 200, "one", 19, 0}, visit{2, 30, get("/a"), 200, "one", 0, 1}, visit{1, 31, get("/a"), 200, "one", 1, 0})
}

func TestNodesAsATree(t *testing.T) {
	n := networkOf(-1, 0, 0, 2, -1)
	n = checkVisits(t, n, visit{1, 10, get("/a"), 200, "one", -1, 1}, visit{3, 12, get("/a"), 200, "one", 2, 0}, visit{2, 12, get("/a"), 200, "one", 2, 0}, visit{4, 12, get("/a"), 200, "one", -1, 1}, visit{4, 13, get("/a"), 200, "one", 1, 0}, visit{0, 13, get("/a"), 200, "one", 3, 0})
	// The branches know nothing of each other.
	n.Nodes[2].Cut = true
	checkVisits(t, n, visit{3, 31, get("/a"), 504, "cut", -1, 0}, visit{1, 31, get("/a"), 200, "one", 0, 1}, visit{3, 31, get("/a"), 504, "cut", -1, 0}, visit{4, 32, get("/a"), 200, "one", 0, 1})
}

// cutAt and downAt change a node of a network.
func cutAt(n impl.Network, l ...int) impl.Network {
	n = copied(n)
	for _, i := range l {
		n.Nodes[i].Cut = true
	}
	return n
}

func downAt(n impl.Network, l ...int) impl.Network {
	n = copied(n)
	for _, i := range l {
		n.Nodes[i].Down = true
	}
	return n
}

func TestNodesThatFail(t *testing.T) {
	n := networkOf(-1, 0, 1)
	for i := range 3 {
		// At each place of the way: the nodes from there on have no answer.
		for node := range 3 {
			down, cut, asks := visit{node, 10, get("/a"), 502, "down", -1, 0}, visit{node, 10, get("/a"), 504, "cut", -1, 0}, visit{node, 10, get("/a"), 200, "one", -1, 1}
			if node < i {
				down, cut = asks, asks
			}
			checkVisits(t, downAt(n, i), down)
			checkVisits(t, cutAt(n, i), cut)
			down.r, cut.r, down.body, cut.body = head("/a"), head("/a"), "", ""
			checkVisits(t, downAt(n, i), down)
			checkVisits(t, cutAt(n, i), cut)
			down.r, cut.r = request("POST", "h", "/a"), request("POST", "h", "/a")
			if node >= i {
				down.body, cut.body = "down", "cut"
				checkVisits(t, downAt(n, i), down)
				checkVisits(t, cutAt(n, i), cut)
			}
		}
	}
	// A node that is both is down; what a cut node has it gives as long as it is fresh; errors are not stored.
	checkVisits(t, cutAt(downAt(n, 2), 2), visit{2, 10, get("/a"), 502, "down", -1, 0})
	stored := checkVisits(t, n, visit{2, 10, get("/a"), 200, "one", -1, 1})
	checkVisits(t, cutAt(stored, 2), visit{2, 29, get("/a"), 200, "one", 19, 0}, visit{2, 30, get("/a"), 504, "cut", -1, 0}, visit{2, 29, get("/a"), 200, "one", 19, 0})
	checkVisits(t, cutAt(stored, 0), visit{2, 29, get("/a"), 200, "one", 19, 0}, visit{2, 30, get("/a"), 504, "cut", -1, 0}, visit{2, 30, head("/a"), 504, "", -1, 0}, visit{0, 29, get("/a"), 200, "one", 19, 0})
	checkVisits(t, downAt(stored, 2), visit{2, 11, get("/a"), 502, "down", -1, 0}, visit{1, 11, get("/a"), 200, "one", 1, 0})
	checkVisits(t, downAt(stored, 0), visit{2, 11, get("/a"), 200, "one", 1, 0}, visit{2, 30, get("/a"), 502, "down", -1, 0})
	failed := checkVisits(t, cutAt(n, 0), visit{2, 10, get("/a"), 504, "cut", -1, 0})
	for _, node := range failed.Nodes {
		if len(node.Store.Entries) > 0 {
			t.Errorf("an error is stored: %+v", node.Store)
		}
	}
}

// manyAsked is a request with so many fields.
func manyAsked(method string, target string, n int) impl.Request {
	return impl.Request{Method: method, Host: "h", Target: target, Fields: manyFields(n)}
}

func TestRequestsWithManyFields(t *testing.T) {
	n := networkOf(-1, 0)
	for count := 18; count < 30; count++ {
		want := visit{0, 10, manyAsked("GET", "/a", count), 200, "one", -1, 1}
		if count > 20 {
			want = visit{0, 10, manyAsked("GET", "/a", count), 431, "fields", -1, 0}
		}
		checkVisits(t, n, want)
		want.node = 1
		checkVisits(t, n, want)
		if count > 20 {
			want.r.Method, want.body = "HEAD", ""
			checkVisits(t, n, want)
			// Before all but being down.
			want.r.Method, want.body, want.node = "POST", "fields", 0
			denied := copied(n)
			denied.Nodes[0].Policy = []impl.Rule{rule(3, "/", 0)}
			checkVisits(t, denied, want)
			checkVisits(t, cutAt(n, 0), want)
			want.code, want.body = 502, "down"
			checkVisits(t, downAt(n, 0), want)
		}
	}
	// A node adds a field to what it asks, which may be one too many for the node behind it.
	stored := checkVisits(t, n, visit{1, 10, manyAsked("GET", "/a", 20), 200, "one", -1, 1})
	checkVisits(t, stored, visit{0, 30, manyAsked("GET", "/a", 20), 200, "one", 0, 1}, visit{1, 30, manyAsked("GET", "/a", 20), 431, "fields", -1, 0})
	checkVisits(t, stored, visit{1, 30, manyAsked("GET", "/a", 19), 200, "one", 0, 1})
}

func TestPoliciesOfNodes(t *testing.T) {
	with := func(rules ...impl.Rule) impl.Network {
		n := networkOf(-1, 0)
		n.Nodes[1].Policy = rules
		return n
	}
	// Refused, whatever is stored, asked for, or in order.
	denied := with(rule(3, "/a", 0))
	checkVisits(t, denied, visit{1, 10, get("/a"), 403, "denied", -1, 0}, visit{1, 10, get("/x/../%61"), 403, "denied", -1, 0}, visit{1, 10, head("/a"), 403, "", -1, 0}, visit{1, 10, request("POST", "h", "/a"), 403, "denied", -1, 0}, visit{1, 10, request("get", "other", "/a"), 403, "denied", -1, 0}, visit{0, 10, get("/a"), 200, "one", -1, 1}, visit{1, 10, get("/gone"), 200, "first", -1, 1})
	stored := checkVisits(t, with(), visit{1, 10, get("/a"), 200, "one", -1, 1})
	stored.Nodes[1].Policy = denied.Nodes[1].Policy
	checkVisits(t, cutAt(stored, 1), visit{1, 11, get("/a"), 403, "denied", -1, 0})
	checkVisits(t, downAt(stored, 1), visit{1, 11, get("/a"), 502, "down", -1, 0})
	// Passed: neither answered from the store nor stored nor counted, but the node behind does.
	stored.Nodes[1].Policy = []impl.Rule{rule(1, "/a", 0), rule(3, "/", 0)}
	passed := checkVisits(t, stored, visit{1, 12, get("/a"), 200, "one", 2, 0}, visit{1, 30, get("/a"), 200, "one", 0, 1}, visit{1, 30, head("/a"), 200, "", 0, 0}, visit{1, 31, request("POST", "h", "/a"), 405, "method", -1, 1}, visit{1, 31, get("/a", "cache-control", "only-if-cached"), 200, "one", 1, 0}, visit{1, 31, get("/gone"), 403, "denied", -1, 0})
	if !alike(passed.Nodes[1], stored.Nodes[1]) {
		t.Errorf("a node that passes becomes %+v", passed.Nodes[1])
	}
	// Capped: with one second less, the same and one more.
	capped := with(rule(2, "/a", 5), rule(2, "/l", 50))
	checkVisits(t, capped, visit{1, 10, get("/a"), 200, "one", -1, 1}, visit{1, 14, get("/a"), 200, "one", 4, 0}, visit{1, 15, get("/a"), 200, "one", 5, 0}, visit{0, 29, get("/a"), 200, "one", 19, 0}, visit{1, 31, get("/a"), 200, "one", 0, 1})
	// A cap of 0 lets it ask always; one above the lifetime changes nothing; the longest prefix counts.
	checkVisits(t, with(rule(2, "/", 50), rule(2, "/a", 0)), visit{1, 10, get("/a"), 200, "one", -1, 1}, visit{1, 10, get("/a"), 200, "one", 0, 0}, visit{1, 30, get("/a"), 200, "one", 0, 1}, visit{1, 30, get("/gone"), 200, "again", -1, 1}, visit{1, 49, get("/gone"), 200, "again", 19, 0}, visit{1, 50, get("/gone"), 200, "again", 0, 1})
	// What may be used on an error is fresh only under the cap, too.
	n := checkVisits(t, with(rule(2, "/late", 3)), visit{1, 10, get("/late"), 200, "slow", -1, 1})
	checkVisits(t, cutAt(n, 1), visit{1, 12, get("/late"), 200, "slow", 2, 0}, visit{1, 43, get("/late"), 200, "slow", 33, 0}, visit{1, 44, get("/late"), 504, "cut", -1, 0})
	checkVisits(t, n, visit{1, 18, get("/late"), 200, "slow", 8, 0}, visit{1, 19, get("/late"), 200, "slow", 9, 0})
}

func TestMethodsOfRequests(t *testing.T) {
	stored := checkVisits(t, networkOf(-1, 0), visit{1, 10, get("/a"), 200, "one", -1, 1})
	for _, method := range []string{"POST", "PUT", "DELETE", "OPTIONS", "X-1", "TRACE"} {
		after := checkVisits(t, stored, visit{1, 11, request(method, "h", "/a"), 405, "method", -1, 1}, visit{1, 11, request(method, "h", "/none"), 405, "method", -1, 1}, visit{1, 12, get("/a"), 200, "one", 2, 0})
		if after.Nodes[1].Sketch.Total != 2 || len(after.Nodes[1].Store.Entries) != 1 {
			t.Errorf("after %s: %+v", method, after.Nodes[1])
		}
	}
	// Requests without a key: each is asked for.
	for _, r := range []impl.Request{get("/%"), request("get", "h", "/a"), request("GET", "H", "/a"), request("GET", "h", "a"), request("GET", "h", "/a", "A", "b"), {}} {
		checkVisits(t, stored, visit{1, 11, r, 400, "bad", -1, 1}, visit{1, 11, r, 400, "bad", -1, 1})
	}
	checkVisits(t, stored, visit{1, 11, head("/%"), 400, "", -1, 1}, visit{1, 11, request("GET", "other", "/a"), 400, "bad", -1, 1}, visit{1, 11, request("GET", "other", "/a"), 400, "bad", -1, 1})
	// HEAD is answered from the store, but what it gets is not stored.
	n := checkVisits(t, networkOf(-1, 0), visit{1, 10, head("/a"), 200, "", -1, 1}, visit{1, 10, head("/a"), 200, "", -1, 1}, visit{1, 11, get("/a"), 200, "one", -1, 1}, visit{1, 13, head("/a"), 200, "", 2, 0}, visit{1, 31, head("/a"), 200, "", 0, 1}, visit{1, 32, get("/a"), 200, "one", 1, 0}, visit{1, 55, head("/a"), 200, "", -1, 1}, visit{1, 56, get("/a"), 200, "three", 1, 0}, visit{1, 57, head("/a", "if-none-match", `"1//"`), 304, "", 2, 0})
	if n.Nodes[1].Sketch.Total != 9 || n.Nodes[0].Sketch.Total != 5 {
		t.Errorf("the requests of the nodes are counted as %d and %d", n.Nodes[1].Sketch.Total, n.Nodes[0].Sketch.Total)
	}
	// What a method changes is forgotten, if it succeeds: 405 does not, and nothing here answers another code.
	checkVisits(t, stored, visit{1, 11, request("DELETE", "h", "/a"), 405, "method", -1, 1}, visit{1, 11, get("/a"), 200, "one", 1, 0})
}

func TestAnswersThatAreNotStored(t *testing.T) {
	n := checkVisits(t, networkOf(-1, 0),
		visit{1, 10, get("/never"), 200, "text", -1, 1}, visit{1, 10, get("/never"), 200, "text", -1, 1},
		visit{1, 10, get("/m"), 200, "text", -1, 1}, visit{1, 10, get("/m", "authorization", "u"), 200, "u: text", -1, 1}, visit{1, 10, get("/m", "authorization", "v"), 200, "v: text", -1, 1}, visit{1, 10, get("/m"), 200, "text", -1, 1},
		visit{1, 10, get("/a", "authorization", "u"), 200, "one", -1, 1}, visit{1, 10, get("/a", "cache-control", "no-store"), 200, "one", -1, 1}, visit{1, 10, get("/a", "if-none-match", `"0//"`), 304, "", -1, 1}, visit{1, 10, get("/a", "range", "bytes=9-"), 416, "", -1, 1}, visit{1, 10, get("/a", "if-match", `"9//"`), 412, "", -1, 1})
	for i, node := range n.Nodes {
		if len(node.Store.Entries) > 0 {
			t.Errorf("node %d has %+v", i, node.Store)
		}
	}
	// What is stored for others is for a visitor, too.
	checkVisits(t, n, visit{1, 11, get("/a"), 200, "one", -1, 1}, visit{1, 12, get("/a", "authorization", "u"), 200, "one", 1, 0}, visit{1, 12, get("/a", "cache-control", "no-store"), 200, "one", 1, 0})
}

func TestVariantsOfAPage(t *testing.T) {
	de, en := get("/l", "accept-language", "de"), get("/l", "accept-language", "en;q=0.5,  de;q=0.1")
	// It was changed at 0, so that it is fresh for a tenth of that time.
	n := checkVisits(t, networkOf(-1, 0), visit{1, 100, de, 200, "[de]text", -1, 1}, visit{1, 100, en, 200, "[en]text", -1, 1}, visit{1, 109, de, 200, "[de]text", 9, 0}, visit{1, 109, get("/l", "accept-language", "en;q=0.5, de;q=0.1"), 200, "[en]text", 9, 0}, visit{1, 109, get("/l"), 200, "[de]text", -1, 1}, visit{1, 110, en, 200, "[en]text", 0, 1}, visit{1, 111, de, 200, "[de]text", 0, 1})
	if len(n.Nodes[1].Store.Entries) != 3 {
		t.Errorf("there are %d variants", len(n.Nodes[1].Store.Entries))
	}
	// All ways of writing a target have one entry.
	checkVisits(t, networkOf(-1), visit{0, 10, get("/q?y&x"), 200, "text", -1, 1}, visit{0, 11, get("/b/../q?x&y"), 200, "text", 1, 0}, visit{0, 12, get("/%71?&y&x&"), 200, "text", 2, 0}, visit{0, 12, get("/q?x"), 404, "none", -1, 1}, visit{0, 13, get("/q?x"), 404, "none", 1, 0})
	// A page that is gone, and comes back.
	checkVisits(t, networkOf(-1, 0), visit{1, 9, get("/gone"), 404, "none", -1, 1}, visit{1, 18, get("/gone"), 404, "none", 9, 0}, visit{1, 19, get("/gone"), 200, "first", -1, 1}, visit{1, 38, get("/gone"), 200, "first", 19, 0}, visit{1, 39, get("/gone"), 200, "again", -1, 1})
	checkVisits(t, networkOf(-1, 0), visit{1, 25, get("/gone"), 410, "gone", -1, 1}, visit{1, 34, get("/gone"), 410, "gone", 9, 0}, visit{1, 34, head("/gone", "range", "bytes=0-0"), 410, "", 9, 0}, visit{1, 35, get("/gone"), 200, "again", -1, 1})
}

// controlled is a request with these rules.
func controlled(target string, control string) impl.Request {
	return get(target, "cache-control", control)
}

func TestEachPlan(t *testing.T) {
	n := checkVisits(t, networkOf(-1), visit{0, 10, get("/a"), 200, "one", -1, 1}, visit{0, 10, get("/late"), 200, "slow", -1, 1}, visit{0, 10, get("/strict"), 200, "text", -1, 1}, visit{0, 10, get("/always"), 200, "old", -1, 1})
	for _, l := range [][]visit{
		// UseIt, also stale.
		{{0, 29, get("/a"), 200, "one", 19, 0}}, {{0, 35, controlled("/a", "max-stale"), 200, "one", 25, 0}}, {{0, 35, controlled("/a", "max-stale=5"), 200, "one", 25, 0}}, {{0, 36, controlled("/a", "max-stale=5"), 200, "one", 0, 1}}, {{0, 25, controlled("/a", "only-if-cached"), 200, "one", 15, 0}},
		// CheckIt.
		{{0, 30, get("/a"), 200, "one", 0, 1}}, {{0, 11, controlled("/a", "no-cache"), 200, "one", 0, 1}, {0, 12, get("/a"), 200, "one", 1, 0}}, {{0, 15, controlled("/a", "max-age=4"), 200, "one", 0, 1}}, {{0, 15, controlled("/a", "max-age=5"), 200, "one", 5, 0}}, {{0, 15, controlled("/a", "min-fresh=16"), 200, "one", 0, 1}}, {{0, 15, controlled("/a", "min-fresh=15"), 200, "one", 5, 0}}, {{0, 10, get("/always"), 200, "old", 0, 1}, {0, 11, get("/always"), 200, "old", 0, 1}}, {{0, 20, controlled("/strict", "max-stale"), 200, "text", 0, 1}},
		// GiveUp, after which nothing has changed but the counts; but without an entry it asks.
		{{0, 30, controlled("/a", "only-if-cached"), 504, "unknown", -1, 0}, {0, 29, get("/a"), 200, "one", 19, 0}}, {{0, 10, controlled("/a", "no-cache, only-if-cached"), 504, "unknown", -1, 0}}, {{0, 10, head("/always", "cache-control", "only-if-cached"), 504, "", -1, 0}}, {{0, 10, controlled("/gone", "only-if-cached"), 200, "first", -1, 1}},
		// UseStale: it is checked at once, so that it is fresh again.
		{{0, 19, get("/late"), 200, "slow", 9, 0}}, {{0, 20, get("/late"), 200, "slow", 10, 1}, {0, 21, get("/late"), 200, "slow", 1, 0}}, {{0, 25, get("/late"), 200, "slow", 15, 1}, {0, 34, get("/late"), 200, "slow", 9, 0}}, {{0, 26, get("/late"), 200, "slow", 0, 1}}, {{0, 25, controlled("/late", "only-if-cached"), 200, "slow", 15, 1}}, {{0, 25, head("/late"), 200, "", 15, 1}, {0, 26, get("/late"), 200, "slow", 1, 0}}, {{0, 25, get("/late", "if-none-match", `"0//"`), 304, "", 15, 1}, {0, 26, get("/late"), 200, "slow", 1, 0}},
		// Or it is another one by then.
		{{0, 47, get("/late"), 200, "slow", 0, 1}, {0, 59, get("/late"), 200, "slow", 12, 1}, {0, 60, get("/late"), 200, "slower", 1, 0}},
	} {
		checkVisits(t, n, l...)
	}
}

func TestEachOutcomeOfACheck(t *testing.T) {
	n := checkVisits(t, networkOf(-1, 0), visit{1, 10, get("/a"), 200, "one", -1, 1}, visit{1, 10, get("/late"), 200, "slow", -1, 1}, visit{1, 10, get("/strict"), 200, "text", -1, 1}, visit{1, 10, get("/gone"), 200, "first", -1, 1}, visit{1, 10, get("/long", "range", "bytes=2-9"), 206, pageText(60)[2:10], -1, 1})
	// Not modified: the rest of the page stays, and it is answered as asked.
	checkVisits(t, n, visit{1, 35, get("/a", "range", "bytes=1-"), 206, "ne", 0, 1}, visit{1, 36, get("/a"), 200, "one", 1, 0}, visit{0, 37, get("/a"), 200, "one", 2, 0})
	checkVisits(t, n, visit{1, 35, get("/a", "if-none-match", `"0//"`), 304, "", 0, 1}, visit{1, 35, get("/a", "if-match", `"1//"`), 412, "", 0, 0}, visit{1, 36, head("/a"), 200, "", 1, 0})
	// Another version: finished for the request, which may be one that knows it already, and stored as a whole.
	checkVisits(t, n, visit{1, 55, get("/a", "range", "bytes=1-"), 206, "hree", -1, 1}, visit{1, 56, get("/a"), 200, "three", 1, 0})
	checkVisits(t, n, visit{1, 55, get("/a", "if-none-match", `"1//"`), 304, "", -1, 1}, visit{1, 56, get("/a"), 200, "three", 1, 0})
	checkVisits(t, n, visit{1, 55, get("/a", "if-match", `"0//"`, "if-range", `"0//"`), 412, "", -1, 1}, visit{1, 56, get("/a"), 200, "three", 1, 0})
	checkVisits(t, n, visit{1, 55, get("/a", "range", "bytes=9-"), 416, "", -1, 1}, visit{1, 56, get("/a", "range", "bytes=-2"), 206, "ee", 1, 0})
	// A page that is gone.
	checkVisits(t, n, visit{1, 25, controlled("/gone", "max-age=5"), 410, "gone", -1, 1}, visit{1, 26, get("/gone"), 410, "gone", 1, 0}, visit{1, 34, head("/gone"), 410, "", 9, 0}, visit{1, 35, get("/gone"), 200, "again", -1, 1})
	// What must not be stored is dropped nevertheless.
	refused := copied(n)
	refused.Nodes[0].Policy = []impl.Rule{rule(3, "/a", 0)}
	refused = checkVisits(t, refused, visit{1, 29, get("/a"), 200, "one", 19, 0}, visit{1, 30, head("/a"), 403, "", -1, 0}, visit{1, 29, get("/a"), 403, "denied", -1, 0}, visit{1, 25, get("/gone"), 200, "first", 15, 0})
	if len(refused.Nodes[1].Store.Entries) != 4 {
		t.Errorf("node 1 has %+v", refused.Nodes[1].Store)
	}
	checkVisits(t, n, visit{1, 55, controlled("/a", "no-store"), 200, "three", -1, 1}, visit{1, 55, get("/a"), 200, "three", -1, 1})
	// An error: what may be used on errors is used for 30 seconds more, but not for requests that want a check.
	for _, broken := range []impl.Network{cutAt(n, 1), cutAt(n, 0), downAt(n, 0)} {
		code, body := 504, "cut"
		if broken.Nodes[0].Down {
			code, body = 502, "down"
		}
		checkVisits(t, broken, visit{1, 29, get("/a"), 200, "one", 19, 0}, visit{1, 30, get("/a"), code, body, -1, 0}, visit{1, 30, head("/a"), code, "", -1, 0}, visit{1, 30, get("/a", "if-none-match", `"0//"`, "range", "bytes=0-0"), code, body, -1, 0},
			visit{1, 25, get("/late"), 200, "slow", 15, 0}, visit{1, 26, get("/late"), 200, "slow", 16, 0}, visit{1, 50, get("/late"), 200, "slow", 40, 0}, visit{1, 51, get("/late"), code, body, -1, 0}, visit{1, 50, get("/late", "range", "bytes=-1"), 206, "w", 40, 0}, visit{1, 50, controlled("/late", "no-cache"), code, body, -1, 0}, visit{1, 50, controlled("/late", "max-age=39"), code, body, -1, 0}, visit{1, 50, controlled("/late", "max-age=40"), 200, "slow", 40, 0},
			visit{1, 19, get("/strict"), 200, "text", 9, 0}, visit{1, 20, get("/strict"), code, body, -1, 0}, visit{1, 19, get("/long", "range", "bytes=3-3"), 206, pageText(60)[3:4], 9, 0}, visit{1, 19, get("/long", "range", "bytes=1-3"), code, body, -1, 0}, visit{1, 19, controlled("/long", "no-cache"), code, body, -1, 0})
	}
	// Without a tag, it asks for the whole page.
	untagged := copied(n)
	for i, e := range untagged.Nodes[1].Store.Entries {
		untagged.Nodes[1].Store.Entries[i].Head.Fields = slices.DeleteFunc(e.Head.Fields, func(f impl.Field) bool { return f.Name == "etag" })
	}
	checkVisits(t, untagged, visit{1, 30, get("/a"), 200, "one", 0, 1}, visit{1, 31, get("/a"), 200, "one", 1, 0})
	checkVisits(t, untagged, visit{1, 30, manyAsked("GET", "/a", 20), 200, "one", 0, 1})
	// None of the conditions goes on to the node behind, nor does a range.
	for _, l := range [][]string{{"if-modified-since", stamp(20)}, {"if-unmodified-since", stamp(2)}, {"if-match", `"9//"`}, {"if-none-match", `"0//"`}, {"range", "bytes=0-0"}, {"range", "bytes=0-0", "if-range", `"0//"`}} {
		for _, m := range []impl.Network{n, untagged} {
			later := checkVisits(t, m, visit{1, 56, get("/a"), 200, "three", -1, 1})
			next, x := fetched(t, m, 1, get("/a", l...), 55)
			if !sameAnswer(x, originBy(m, get("/a", l...), 55)) || next.Asks != later.Asks {
				t.Errorf("with %q, the check gives %#v", l, x)
			}
			checkVisits(t, next, visit{1, 56, get("/a"), 200, "three", 1, 0}, visit{0, 56, get("/a"), 200, "three", 1, 0})
			next, _ = fetched(t, m, 1, get("/a", l...), 30)
			checkVisits(t, next, visit{1, 31, get("/a"), 200, "one", 1, 0})
		}
	}
}

// stuffed is a network whose only node has an entry for /a with as many fields as there may be, and none of them is a surrogate key.
func stuffed(control string) impl.Network {
	n := networkOf(-1)
	e := kept("h/a", 10)
	e.Head.Fields = append(pairs("date", stamp(10), "etag", `"0//"`, "cache-control", control), manyFields(20)...)
	e.Pieces, e.Length, e.Initial, e.Got, e.Seq = []impl.Piece{piece(0, "one")}, 3, 0, 10, 0
	n.Nodes[0].Store = storeOf(e)
	return n
}

func TestAnEntryThatCannotBeFreshened(t *testing.T) {
	n := checkVisits(t, stuffed("max-age=5"), visit{0, 14, get("/a"), 200, "one", 4, 0}, visit{0, 15, get("/a"), 502, "bad", -1, 1}, visit{0, 15, head("/a"), 502, "", -1, 1}, visit{0, 14, get("/a"), 200, "one", 4, 0})
	if !alike(n.Nodes[0].Store, stuffed("max-age=5").Nodes[0].Store) {
		t.Errorf("the store becomes %+v", n.Nodes[0].Store)
	}
	// What a check behind a stale answer says is forgotten, also that it is bad.
	checkVisits(t, stuffed("max-age=5, stale-while-revalidate=3"), visit{0, 16, get("/a"), 200, "one", 6, 1}, visit{0, 18, get("/a"), 200, "one", 8, 1}, visit{0, 19, get("/a"), 502, "bad", -1, 1}, visit{0, 55, get("/a"), 200, "three", -1, 1}, visit{0, 56, get("/a"), 200, "three", 1, 0})
}

// partly is a network whose only node has these pieces of the page /long, in its first version.
func partly(ups []int, l ...impl.Piece) impl.Network {
	n := networkOf(ups...)
	e := kept("h/long", 10)
	e.Head.Fields = pairs("date", stamp(10), "last-modified", stamp(5), "etag", `"0//"`, "cache-control", "s-maxage=100")
	e.Pieces, e.Length, e.Initial, e.Got, e.Seq = l, 60, 0, 10, 0
	last := len(ups) - 1
	n.Nodes[last].Store = storeOf(e)
	return n
}

func TestFilling(t *testing.T) {
	text, other := pageText(60), pageText(80)[20:]
	few := []impl.Piece{cut(text, 2, 10), cut(text, 30, 31)}
	for _, ups := range [][]int{{-1}, {-1, 0}, {-1, 0, 1}} {
		i := len(ups) - 1
		n := partly(ups, few...)
		// What is there is given; else all that is missing is asked for.
		checkVisits(t, n, visit{i, 20, get("/long", "range", "bytes=2-9"), 206, text[2:10], 10, 0}, visit{i, 20, head("/long"), 200, "", 10, 0}, visit{i, 20, get("/long", "if-none-match", "*"), 304, "", 10, 0}, visit{i, 20, get("/long", "range", "bytes=60-"), 416, "", 10, 0})
		checkVisits(t, n, visit{i, 20, get("/long"), 200, text, 0, 1}, visit{i, 25, get("/long"), 200, text, 5, 0})
		checkVisits(t, n, visit{i, 20, get("/long", "range", "bytes=2-10"), 206, text[2:11], 0, 1}, visit{i, 25, get("/long"), 200, text, 5, 0})
		checkVisits(t, n, visit{i, 20, get("/long", "range", "bytes=0-0", "if-range", `"0//"`, "if-match", `"0//"`), 206, text[:1], 0, 1}, visit{i, 25, get("/long", "range", "bytes=59-"), 206, text[59:], 5, 0})
		// Another version: it takes the place of what is there.
		checkVisits(t, n, visit{i, 55, get("/long", "range", "bytes=2-9"), 206, text[2:10], 45, 0}, visit{i, 55, get("/long"), 200, other, 0, 1}, visit{i, 56, get("/long", "range", "bytes=2-9"), 206, other[2:10], 1, 0})
		checkVisits(t, n, visit{i, 55, get("/long", "range", "bytes=0-4", "if-range", `"0//"`), 200, other, 0, 1}, visit{i, 56, get("/long"), 200, other, 1, 0})
		checkVisits(t, n, visit{i, 55, get("/long", "range", "bytes=0-4", "if-match", `"0//"`), 412, "", 0, 1}, visit{i, 56, get("/long"), 200, other, 1, 0})
		// It fails, so that it fetches; if that fails, too, the entry stays.
		checkVisits(t, cutAt(n, i), visit{i, 20, get("/long"), 504, "cut", -1, 0}, visit{i, 20, get("/long", "range", "bytes=1-2"), 504, "cut", -1, 0}, visit{i, 20, get("/long", "range", "bytes=3-3"), 206, text[3:4], 10, 0})
		checkVisits(t, cutAt(n, 0), visit{i, 20, get("/long"), 504, "cut", -1, 0}, visit{i, 20, get("/long", "range", "bytes=3-3"), 206, text[3:4], 10, 0})
		// Checked first, then filled.
		checkVisits(t, n, visit{i, 20, controlled("/long", "no-cache"), 200, text, 0, 2}, visit{i, 25, get("/long"), 200, text, 5, 0})
		checkVisits(t, n, visit{i, 55, controlled("/long", "no-cache"), 200, other, -1, 1}, visit{i, 56, get("/long"), 200, other, 1, 0})
		checkVisits(t, n, visit{i, 20, get("/long", "cache-control", "no-cache", "range", "bytes=2-9"), 206, text[2:10], 0, 1})
		// Stale, but it may be used: filled without a check.
		stale := copied(n)
		stale.Nodes[i].Store.Entries[0].Head.Fields[3].Value = "max-age=5, stale-while-revalidate=90"
		checkVisits(t, stale, visit{i, 20, get("/long", "range", "bytes=1-2"), 206, text[1:3], 0, 1}, visit{i, 21, get("/long"), 200, text, 1, 0})
		checkVisits(t, stale, visit{i, 20, get("/long", "range", "bytes=3-4"), 206, text[3:5], 10, 1})
		checkVisits(t, cutAt(stale, i), visit{i, 20, get("/long", "range", "bytes=1-2"), 504, "cut", -1, 0}, visit{i, 20, get("/long", "range", "bytes=3-4"), 206, text[3:5], 10, 0})
	}
	// A request that must not be stored asks for what is missing, and then for all.
	checkVisits(t, partly([]int{-1}, few...), visit{0, 20, controlled("/long", "no-store"), 200, text, -1, 2}, visit{0, 20, get("/long", "range", "bytes=2-9"), 206, text[2:10], 10, 0})
	// The page is gone: what is missing cannot be got.
	o := shop()
	o.Resources[7].Versions = append(o.Resources[7].Versions, gone(70))
	n := partly([]int{-1}, few...)
	n.Origin = o
	checkVisits(t, n, visit{0, 75, get("/long"), 410, "gone", 0, 1}, visit{0, 76, get("/long"), 410, "gone", 1, 0}, visit{0, 76, get("/long", "range", "bytes=2-9"), 410, "gone", 1, 0})
}

func TestFillingManyPieces(t *testing.T) {
	text := pageText(60)
	odd := func(count int) []impl.Piece {
		l := []impl.Piece{}
		for i := range count {
			l = append(l, cut(text, 2*i+1, 2*i+2))
		}
		return l
	}
	// So many pieces leave one more missing span: filled by up to six, fetched by seven and more.
	for count := range 9 {
		want := visit{0, 20, get("/long"), 200, text, 0, 1}
		if count > 5 {
			want.age = -1
		}
		checkVisits(t, partly([]int{-1}, odd(count)...), want, visit{0, 21, get("/long"), 200, text, 1, 0})
	}
	// With a piece at an end, one less.
	for count := 5; count < 8; count++ {
		l := odd(count)
		l[0] = cut(text, 0, 2)
		want := visit{0, 20, get("/long"), 200, text, 0, 1}
		if count > 6 {
			want.age = -1
		}
		checkVisits(t, partly([]int{-1}, l...), want)
	}
	// What is fetched for a request with a range joins what is there, so that the rest can be filled.
	checkVisits(t, partly([]int{-1}, odd(7)...), visit{0, 20, get("/long", "range", "bytes=0-3"), 206, text[:4], -1, 1}, visit{0, 21, get("/long", "range", "bytes=0-5"), 206, text[:6], 0, 1})
	// Parts that would be too long are got as the whole page.
	o := shop()
	o.Resources[7].Versions = []impl.Version{version(5, pageText(400))}
	n := partly([]int{-1}, cut(pageText(400), 200, 210), cut(pageText(400), 300, 310))
	n.Origin, n.Nodes[0].Store.Entries[0].Length = o, 400
	checkVisits(t, n, visit{0, 20, get("/long"), 200, pageText(400), 0, 1})
	// Without a tag, the part does not hold.
	untagged := partly([]int{-1}, cut(text, 2, 10))
	untagged.Nodes[0].Store.Entries[0].Head.Fields = pairs("date", stamp(10), "cache-control", "s-maxage=100")
	checkVisits(t, untagged, visit{0, 20, get("/long"), 200, text, 0, 1}, visit{0, 20, get("/long", "range", "bytes=2-9"), 206, text[2:10], 0, 0})
}

func issued(n impl.Network, kind int, text string) (impl.Network, impl.Purge) {
	n, p, _ := impl.IssuePurge(n, kind, text)
	return n, p
}

func TestIssuePurge(t *testing.T) {
	full := stocked()
	full.Seq = impl.MaxValue
	bad := stocked()
	bad.Nodes[2].Room = -1
	for _, x := range []struct {
		n    impl.Network
		kind int
		text string
		want bool
	}{
		{stocked(), 1, "", true}, {stocked(), 2, "h/a", true}, {stocked(), 3, "k1", true}, {stocked(), 2, "", true}, {stocked(), 3, strings.Repeat("t", 160), true}, {networkOf(-1), 3, " ", true},
		{stocked(), 1, "x", false}, {stocked(), 0, "", false}, {stocked(), 4, "", false}, {stocked(), -1, "", false}, {stocked(), 3, strings.Repeat("t", 161), false}, {full, 1, "", false}, {bad, 1, "", false}, {impl.Network{}, 1, "", false},
	} {
		before := copied(x.n)
		want, p := copied(x.n), impl.Purge{}
		if x.want {
			want.Seq++
			p = purge(want.Seq, x.kind, x.text)
		}
		if n, got, ok := impl.IssuePurge(x.n, x.kind, x.text); !alike(n, want) || got != p || ok != x.want || !alike(x.n, before) {
			t.Errorf("IssuePurge of %d, %q at %d = %+v, %+v, %v, want %+v", x.kind, x.text, x.n.Seq, n, got, ok, p)
		}
	}
	full.Seq--
	if n, p, ok := impl.IssuePurge(full, 1, ""); !ok || n.Seq != impl.MaxValue || p.Seq != impl.MaxValue || !impl.IsNetwork(n) {
		t.Error("the last purge is not issued")
	}
}

func TestDeliverPurge(t *testing.T) {
	n := stocked()
	n.Seq = 5
	full := copied(n)
	full.Seq, full.Nodes[0].Purges = 500, somePurges(20)
	bad := copied(n)
	bad.Nodes[4].Room = -1
	for _, x := range []struct {
		n    impl.Network
		i    int
		p    impl.Purge
		want bool
	}{
		{n, 0, purge(3, 1, ""), true}, {n, 1, purge(3, 3, "k2"), true}, {n, 1, purge(5, 2, "h/l"), true}, {n, 2, purge(4, 2, "h/a"), true}, {n, 3, purge(1, 1, ""), true}, {n, 3, purge(5, 1, ""), true}, {n, 4, purge(1, 1, ""), true}, {n, 4, purge(4, 3, "nobody"), true},
		// From the future, twice, with a number that is taken, and such as is none.
		{n, 0, purge(6, 1, ""), false}, {n, 0, purge(impl.MaxValue, 1, ""), false}, {n, 1, purge(1, 2, "h/gone"), false}, {n, 1, purge(1, 1, ""), false}, {n, 3, purge(2, 3, "nobody"), false}, {n, 0, purge(0, 1, ""), false}, {n, 0, purge(-1, 1, ""), false}, {n, 0, purge(3, 0, ""), false}, {n, 0, purge(3, 1, "x"), false}, {n, 0, impl.Purge{}, false},
		{full, 0, purge(205, 1, ""), false}, {full, 1, purge(205, 1, ""), true}, {bad, 0, purge(3, 1, ""), false}, {impl.Network{}, 0, purge(3, 1, ""), false}, {n, -1, purge(3, 1, ""), false}, {n, 5, purge(3, 1, ""), false}, {n, math.MaxInt, purge(3, 1, ""), false}, {n, math.MinInt, purge(3, 1, ""), false},
	} {
		before, want := copied(x.n), copied(x.n)
		if x.want {
			node := &want.Nodes[x.i]
			node.Purges, _ = addedPurgeBy(node.Purges, x.p)
			node.Store.Entries = slices.DeleteFunc(node.Store.Entries, func(e impl.Entry) bool { return hitBy(node.Purges, e.Key, e.Head.Fields, e.Seq) })
		}
		got, ok := impl.DeliverPurge(x.n, x.i, x.p)
		if !alike(got, want) || ok != x.want || !alike(x.n, before) || ok && !impl.IsNetwork(got) {
			t.Errorf("DeliverPurge of %+v to %d = %+v, %v, want %+v", x.p, x.i, got, ok, want)
		}
	}
}

func TestPurgesOfAnswers(t *testing.T) {
	n := checkVisits(t, networkOf(-1, 0), visit{1, 10, get("/a"), 200, "one", -1, 1}, visit{1, 10, get("/gone"), 200, "first", -1, 1})
	for _, x := range []struct {
		kind int
		text string
		hits bool
	}{{impl.PurgeAll, "", true}, {impl.PurgeKey, "h/a", true}, {impl.PurgeName, "k2", true}, {impl.PurgeKey, "h/b", false}, {impl.PurgeName, "k", false}, {impl.PurgeName, "", false}} {
		n, p := issued(n, x.kind, x.text)
		// Nobody knows of it yet.
		checkVisits(t, n, visit{1, 12, get("/a"), 200, "one", 2, 0})
		late, _ := impl.DeliverPurge(n, 1, p)
		if !x.hits {
			checkVisits(t, late, visit{1, 12, get("/a"), 200, "one", 2, 0})
			continue
		}
		// The node forgets the answer, gets the same from the node behind, which does not know, and asks once more for one that is checked.
		after := checkVisits(t, late, visit{1, 12, get("/a"), 200, "one", 0, 1}, visit{1, 13, get("/a"), 200, "one", 1, 0}, visit{0, 14, get("/a"), 200, "one", 2, 0})
		if after.Nodes[0].Sketch.Total != 5 || after.Nodes[1].Store.Entries[len(after.Nodes[1].Store.Entries)-1].Seq != 1 {
			t.Errorf("the network becomes %+v", after)
		}
		// The same for HEAD, a range, and one that knows the page.
		checkVisits(t, late, visit{1, 12, head("/a"), 200, "", 0, 1}, visit{1, 12, get("/a"), 200, "one", 0, 0})
		checkVisits(t, late, visit{1, 12, get("/a", "range", "bytes=1-"), 206, "ne", 0, 1}, visit{1, 13, get("/a", "if-none-match", `"0//"`), 304, "", 1, 0})
		// The node behind cannot check, so that the error is taken; or it is down.
		checkVisits(t, cutAt(late, 0), visit{1, 12, get("/a"), 504, "cut", -1, 0}, visit{0, 12, get("/a"), 200, "one", 2, 0})
		checkVisits(t, downAt(late, 0), visit{1, 12, get("/a"), 502, "down", -1, 0})
		// Delivered to the node behind alone, the one in front goes on.
		other, _ := impl.DeliverPurge(n, 0, p)
		checkVisits(t, other, visit{1, 12, get("/a"), 200, "one", 2, 0}, visit{0, 12, get("/a"), 200, "one", -1, 1}, visit{1, 13, get("/a"), 200, "one", 3, 0})
		both, _ := impl.DeliverPurge(other, 1, p)
		checkVisits(t, both, visit{1, 12, get("/a"), 200, "one", -1, 1}, visit{1, 13, get("/a"), 200, "one", 1, 0})
		// In another order, and again.
		m, q := issued(n, impl.PurgeName, "nobody")
		m, _ = impl.DeliverPurge(m, 1, q)
		m, _ = impl.DeliverPurge(m, 1, p)
		m, again := impl.DeliverPurge(m, 1, p)
		if again {
			t.Error("a purge is delivered twice")
		}
		checkVisits(t, m, visit{1, 12, get("/a"), 200, "one", 0, 1}, visit{1, 13, get("/a"), 200, "one", 1, 0})
	}
}

func TestAFreshenedEntryThatIsHit(t *testing.T) {
	// The node behind has no name of the answer, and gives an older stamp: it is answered, but not stored.
	n := networkOf(-1, 0)
	n.Seq = 1
	front, behind := kept("h/a", 10), kept("h/a", 10)
	front.Head.Fields = pairs("date", stamp(10), "etag", `"0//"`, "cache-control", "max-age=5", "surrogate-key", "k1")
	behind.Head.Fields = pairs("date", stamp(10), "etag", `"0//"`, "cache-control", "max-age=20")
	front.Initial, front.Got, front.Seq, behind.Initial, behind.Got, behind.Seq = 0, 10, 1, 0, 10, 0
	n.Nodes[0].Store, n.Nodes[1].Store, n.Nodes[1].Purges = storeOf(behind), storeOf(front), []impl.Purge{purge(1, 3, "k1")}
	after := checkVisits(t, n, visit{1, 16, get("/a"), 200, "abcdefghij", 6, 0}, visit{1, 14, get("/a"), 200, "abcdefghij", 4, 0})
	if !alike(after.Nodes[1].Store, n.Nodes[1].Store) {
		t.Errorf("the store becomes %+v", after.Nodes[1].Store)
	}
}

func TestPurgesOfErrors(t *testing.T) {
	// Answers without a stamp are hit each time; the second one is taken.
	n, p := issued(networkOf(-1, 0), impl.PurgeAll, "")
	n, _ = impl.DeliverPurge(n, 0, p)
	checkVisits(t, n, visit{0, 10, get("/%"), 400, "bad", -1, 2}, visit{1, 10, get("/%"), 400, "bad", -1, 2}, visit{0, 10, get("/a"), 200, "one", -1, 1}, visit{0, 10, request("POST", "h", "/a"), 405, "method", -1, 1}, visit{0, 10, get("/none"), 404, "none", -1, 1})
	n, _ = impl.DeliverPurge(n, 1, p)
	checkVisits(t, n, visit{1, 10, get("/%"), 400, "bad", -1, 4}, visit{1, 10, head("/%"), 400, "", -1, 4}, visit{1, 10, get("/a"), 200, "one", -1, 1})
	checkVisits(t, cutAt(n, 0), visit{1, 10, get("/a"), 504, "cut", -1, 0})
	// The request that is hit has its own rules for caches, instead of which stands the new one.
	m, q := issued(networkOf(-1, 0), impl.PurgeKey, "h/a")
	m = checkVisits(t, m, visit{0, 10, get("/a"), 200, "one", -1, 1})
	m.Nodes[0].Store.Entries[0].Seq = 0
	m, _ = impl.DeliverPurge(m, 1, q)
	checkVisits(t, m, visit{1, 12, controlled("/a", "max-stale, only-if-cached"), 200, "one", 0, 1})
	// With the empty text, it hits the answers to requests that have no key.
	m, q = issued(networkOf(-1), impl.PurgeKey, "")
	m, _ = impl.DeliverPurge(m, 0, q)
	checkVisits(t, m, visit{0, 10, get("/%"), 400, "bad", -1, 2}, visit{0, 10, get("/a"), 200, "one", -1, 1})
}

func TestStoresThatAreFull(t *testing.T) {
	// Answers of four bytes each, one for each target.
	n := networkOf(-1)
	for i := range 12 {
		n = checkVisits(t, n, visit{0, 10, get("/n" + strconv.Itoa(i)), 404, "none", -1, 1})
	}
	for i := range 12 {
		if i != 7 {
			n = checkVisits(t, n, visit{0, 11, get("/n" + strconv.Itoa(i)), 404, "none", 1, 0})
		}
	}
	worth := func(n impl.Network) (int, string) {
		least, key := math.MaxInt, ""
		for _, e := range n.Nodes[0].Store.Entries {
			if v := impl.EstimateKey(n.Nodes[0].Sketch, e.Key); v < least {
				least, key = v, e.Key
			}
		}
		return least, key
	}
	// One more: what is asked for least goes, also if that is not the oldest.
	for _, target := range []string{"/a", "/n99", "/q?x&y"} {
		next, _ := fetched(t, n, 0, get(target), 12)
		touched := copied(n)
		touched.Nodes[0].Sketch = next.Nodes[0].Sketch
		_, gone := worth(touched)
		keys := []string{}
		for _, e := range next.Nodes[0].Store.Entries {
			keys = append(keys, e.Key)
		}
		if len(keys) != 12 || slices.Contains(keys, gone) || keys[11] != "h"+target {
			t.Errorf("%q leaves %q, and %q was asked for least", target, keys, gone)
		}
	}
	// What is not stored takes no place.
	for _, r := range []impl.Request{get("/never"), get("/m"), head("/a"), controlled("/n99", "no-store")} {
		next, _ := fetched(t, n, 0, r, 12)
		if !alike(next.Nodes[0].Store, n.Nodes[0].Store) {
			t.Errorf("%q changes the store to %+v", r, next.Nodes[0].Store)
		}
	}
	part := copied(n)
	part.Nodes[0].Store.Entries[11] = partly([]int{-1}, cut(pageText(60), 2, 10)).Nodes[0].Store.Entries[0]
	failed := checkVisits(t, cutAt(part, 0), visit{0, 20, get("/long"), 504, "cut", -1, 0})
	if !alike(failed.Nodes[0].Store, part.Nodes[0].Store) {
		t.Errorf("what cannot be filled leaves %+v", failed.Nodes[0].Store)
	}
	// The same happens when an entry comes in its own place, so that there is one less then.
	next := checkVisits(t, n, visit{0, 20, get("/n3"), 404, "none", -1, 1})
	if len(next.Nodes[0].Store.Entries) != 12 {
		t.Errorf("after another answer to the same, there are %d entries", len(next.Nodes[0].Store.Entries))
	}
	e := kept("h/a", 15)
	e.Head.Fields[2].Value, e.Initial, e.Got, e.Seq = `"0//"`, 0, 15, 0
	n.Nodes[0].Store.Entries[2] = e
	n = checkVisits(t, n, visit{0, 20, get("/a"), 200, "abcdefghij", 5, 0}, visit{0, 20, get("/a"), 200, "abcdefghij", 5, 0}, visit{0, 20, get("/a"), 200, "abcdefghij", 5, 0})
	next, _ = fetched(t, n, 0, get("/a"), 40)
	if len(next.Nodes[0].Store.Entries) != 11 || next.Nodes[0].Store.Entries[10].Key != "h/a" {
		t.Errorf("after it is freshened, there are %d entries", len(next.Nodes[0].Store.Entries))
	}
}

func TestRoomsThatAreTooSmall(t *testing.T) {
	small := func(room int) impl.Network {
		n, _ := impl.NewNetwork(shop(), []int{-1, 0}, impl.MaxRoom)
		n.Nodes[1].Room = room
		return n
	}
	for room := range 8 {
		n := checkVisits(t, small(room), visit{1, 10, get("/a"), 200, "one", -1, 1})
		age := visit{1, 12, get("/a"), 200, "one", 2, 0}
		if got := len(n.Nodes[1].Store.Entries); got != min(1, room/3) {
			t.Errorf("in the room %d there are %d entries", room, got)
		}
		n = checkVisits(t, n, age, age, visit{1, 12, get("/n"), 404, "none", -1, 1})
		// The other one is asked for less, so that it goes if both have no room.
		want := []string{}
		if room >= 3 {
			want = append(want, "h/a")
		}
		if room >= 7 {
			want = append(want, "h/n")
		}
		keys := []string{}
		for _, e := range n.Nodes[1].Store.Entries {
			keys = append(keys, e.Key)
		}
		if !slices.Equal(keys, want) {
			t.Errorf("in the room %d there are %q, want %q", room, keys, want)
		}
	}
	// What is filled or freshened without room is answered nevertheless.
	text := pageText(60)
	n := partly([]int{-1}, cut(text, 2, 10))
	n.Nodes[0].Room = 8
	checkVisits(t, n, visit{0, 20, get("/long"), 200, text, 0, 1}, visit{0, 21, get("/long"), 200, text, -1, 1}, visit{0, 22, get("/long", "range", "bytes=0-7"), 206, text[:8], -1, 1}, visit{0, 23, get("/long", "range", "bytes=0-7"), 206, text[:8], 1, 0})
}

// dice rolls numbers that are the same in each run.
type dice struct{ state uint64 }

func (d *dice) roll(n int) int {
	d.state = d.state*6364136223846793005 + 1442695040888963407
	return int(d.state>>33) % n
}

func pick[T any](d *dice, l []T) T {
	return l[d.roll(len(l))]
}

// anyRequest is a request of any kind for a page of the shop.
func anyRequest(d *dice) impl.Request {
	l := []string{}
	for _, choice := range [][][]string{
		{{"accept-language", "de"}, {"accept-language", "en, de;q=0.1"}}, {{"range", "bytes=0-1"}, {"range", "bytes=2-3, 5-"}, {"range", "bytes=9-29"}, {"range", "bytes=-4"}}, {{"if-none-match", `"0//"`}, {"if-none-match", `"1//", "0/de/"`}, {"if-match", `"0//"`}, {"if-match", `"9//"`}, {"if-modified-since", stamp(20)}, {"if-unmodified-since", stamp(20)}}, {{"if-range", `"0//"`}, {"if-range", `"1//"`}}, {{"authorization", "u"}, {"authorization", "v"}},
		{{"cache-control", "no-cache"}, {"cache-control", "max-stale"}, {"cache-control", "max-stale=3"}, {"cache-control", "max-age=4"}, {"cache-control", "min-fresh=8"}, {"cache-control", "only-if-cached"}, {"cache-control", "no-store"}},
	} {
		if d.roll(6) == 0 {
			l = append(l, pick(d, choice)...)
		}
	}
	targets := []string{"/a", "/a", "/l", "/m", "/late", "/late", "/strict", "/never", "/always", "/long", "/long", "/long", "/gone", "/q?y&x", "/x/../a", "/none", "/%"}
	methods := []string{"GET", "GET", "GET", "GET", "GET", "GET", "GET", "GET", "HEAD", "POST", "OPTIONS"}
	return request(pick(d, methods), "h", pick(d, targets), l...)
}

// stripped is an answer without what the nodes say of it.
func stripped(x impl.Response) impl.Response {
	x.Fields = slices.DeleteFunc(slices.Clone(x.Fields), func(f impl.Field) bool { return f.Name == "age" || f.Name == "x-purge" })
	return x
}

// checkHonest looks whether the origin gave this answer as many seconds ago as its age says.
func checkHonest(t *testing.T, n impl.Network, r impl.Request, now int, x impl.Response) {
	t.Helper()
	value, hasDate := valuesBy(x.Fields, "date")
	if !hasDate {
		if !slices.Contains([]int{400, 403, 431, 502, 504}, x.Code) {
			t.Fatalf("%q at %d is answered by %#v", r, now, x)
		}
		return
	}
	date, _ := dateOf(value)
	if date != now-ageBy(x) || !sameAnswer(stripped(x), stripped(originBy(n, r, date))) {
		t.Fatalf("%q at %d is answered by %#v, and the origin gave %#v", r, now, x, originBy(n, r, now-ageBy(x)))
	}
}

// trees are networks of all forms.
var trees = [][]int{{-1}, {-1, 0}, {-1, 0, 1, 2, 3}, {-1, 0, 0, 1, 2}, {-1, -1, 1}}

// anyNetwork is a network with policies and rooms of all kinds.
func anyNetwork(d *dice) impl.Network {
	n := networkOf(pick(d, trees)...)
	policies := [][]impl.Rule{nil, nil, {rule(2, "/a", 7), rule(1, "/late", 0)}, {rule(3, "/q", 0), rule(2, "/", 12)}}
	for i := range n.Nodes {
		n.Nodes[i].Policy, n.Nodes[i].Room = pick(d, policies), pick(d, []int{5000, 5000, 70, 5})
	}
	return n
}

// A network gives what the origin gives, whatever happens to it: nodes that fail, purges that come late and out of order, pages that change.
func TestANetworkGivesWhatTheOriginGives(t *testing.T) {
	d := &dice{}
	answers := map[int]int{}
	for range 60 {
		n, now, purges := anyNetwork(d), d.roll(12), []impl.Purge{}
		for range 120 {
			i := d.roll(len(n.Nodes))
			switch d.roll(16) {
			case 0:
				n.Nodes[i].Cut = !n.Nodes[i].Cut
			case 1:
				n.Nodes[i].Down = d.roll(3) == 0
			case 2:
				m, p, ok := impl.IssuePurge(n, 1+d.roll(3), pick(d, []string{"", "h/a", "k1", "h/long"}))
				if ok {
					n, purges = m, append(purges, p)
				}
			case 3, 4:
				if len(purges) > 0 {
					n, _ = impl.DeliverPurge(n, i, pick(d, purges))
				}
			case 5:
				now += d.roll(9)
			case 6:
				o, ok := impl.PublishPage(n.Origin, pick(d, []string{"/a", "/long", "/late", "/l"}), version(now+1, "published at "+strconv.Itoa(now)))
				if ok {
					n.Origin = o
				}
			default:
				r := anyRequest(d)
				next, x := fetched(t, n, i, r, now)
				checkHonest(t, next, r, now, x)
				answers[x.Code]++
				n = next
			}
			if !impl.IsNetwork(n) {
				t.Fatalf("%+v is no network", n)
			}
		}
	}
	for _, code := range []int{200, 206, 304, 400, 403, 404, 405, 410, 412, 416, 502, 504} {
		if answers[code] < 5 {
			t.Errorf("the code %d is answered %d times", code, answers[code])
		}
	}
}

// And it asks no more than it must: once at most for a whole page, not at all if the node has it fresh, and the node behind is not asked then either.
func TestANetworkAsksNoMoreThanItMust(t *testing.T) {
	d := &dice{state: 7}
	for range 15 {
		n := networkOf(pick(d, trees)...)
		now := 5
		for range 100 {
			i, r := d.roll(len(n.Nodes)), get(pick(d, []string{"/a", "/l", "/late", "/strict", "/always", "/long", "/gone", "/q?x&y", "/none"}))
			next, x := fetched(t, n, i, r, now)
			at := impl.FindEntry(n.Nodes[i].Store, r)
			asks := next.Asks - n.Asks
			fresh := at >= 0 && impl.PlanFor(r, n.Nodes[i].Store.Entries[at].Head, impl.EntryAge(n.Nodes[i].Store.Entries[at], now), lifetimeBy(n.Nodes[i].Store.Entries[at].Head)) == impl.UseIt
			if asks > 1 || fresh && asks > 0 {
				t.Fatalf("%q at %d lets the origin be asked %d times", r, now, asks)
			}
			for j := range n.Nodes {
				if fresh && j != i && !alike(n.Nodes[j], next.Nodes[j]) {
					t.Fatalf("%q at %d of node %d changes node %d", r, now, i, j)
				}
			}
			// The same again at once: by then the node has it, if it may be used at all.
			again, y := fetched(t, next, i, r, now)
			mayBeUsed := lifetimeBy(x)-ageBy(x) > 0 && r.Target != "/always"
			if mayBeUsed && (again.Asks != next.Asks || y.Code != x.Code || y.Body != x.Body) {
				t.Fatalf("%q at %d again gives %#v with %d asks, and before it was %#v", r, now, y, again.Asks-next.Asks, x)
			}
			n = again
			now += d.roll(7)
		}
		if n.Asks == 0 || n.Asks > 160 {
			t.Errorf("in 200 visits the origin is asked %d times", n.Asks)
		}
	}
}

func TestNetworksShareNoMemory(t *testing.T) {
	n := stocked()
	n.Nodes[3].Store.Entries = append(n.Nodes[3].Store.Entries, partly([]int{-1}, cut(pageText(60), 2, 10)).Nodes[0].Store.Entries...)
	for _, r := range []impl.Request{get("/a"), get("/a", "range", "bytes=0-0"), get("/new"), get("/long", "accept-language", "de"), controlled("/a", "no-cache"), request("POST", "h", "/a"), request("GET", "h", "/%", "a", "b"), head("/late")} {
		for i := range 6 {
			for _, m := range []impl.Network{n, cutAt(n, 0), downAt(n, 3), {}} {
				checkApart(t, "FetchPage", []any{m, r}, func(a []any) []any {
					next, x := impl.FetchPage(a[0].(impl.Network), i, a[1].(impl.Request), 40)
					return []any{next, x}
				})
			}
		}
		checkApart(t, "OriginAnswer", []any{n, r}, func(a []any) []any {
			return []any{impl.OriginAnswer(a[0].(impl.Network), a[1].(impl.Request), 40), impl.IsNetwork(a[0].(impl.Network))}
		})
	}
	for _, m := range []impl.Network{n, {}, {Origin: shop(), Nodes: n.Nodes, Seq: -1}} {
		for _, p := range []impl.Purge{purge(1, 1, ""), purge(2, 2, "h/a"), purge(9, 1, ""), {}} {
			checkApart(t, "IssuePurge and DeliverPurge", m, func(m impl.Network) []any {
				next, q, ok := impl.IssuePurge(m, p.Kind, p.Text)
				told, done := impl.DeliverPurge(m, 2, p)
				again, did := impl.DeliverPurge(m, 3, p)
				return []any{next, q, ok, told, done, again, did}
			})
		}
	}
	type plan struct {
		O   impl.Origin
		Ups []int
	}
	for _, ups := range [][]int{{-1, 0, 1}, {1}, nil} {
		checkApart(t, "NewNetwork", plan{shop(), ups}, func(p plan) []any {
			made, ok := impl.NewNetwork(p.O, p.Ups, 9)
			return []any{made, ok}
		})
	}
}
