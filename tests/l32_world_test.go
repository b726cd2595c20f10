package tests

import (
	"math"
	"slices"
	"strconv"
	"strings"
	"testing"

	"loop.example/g03012/impl"
)

// worldOf is a new world with the shop as origin, and nodes that ask these.
func worldOf(now int, ups ...int) impl.World {
	w, _ := impl.NewWorld(shop(), ups, impl.MaxRoom, now)
	return w
}

func getAt(node int, r impl.Request) impl.Event {
	return impl.Event{Kind: impl.EvGet, Node: node, Request: r}
}

func joinAt(node int, r impl.Request) impl.Event {
	return impl.Event{Kind: impl.EvJoin, Node: node, Request: r}
}

func land(n int) impl.Event {
	return impl.Event{Kind: impl.EvLand, N: n}
}

func wait(n int) impl.Event {
	return impl.Event{Kind: impl.EvWait, N: n}
}

func publish(target string, text string) impl.Event {
	return impl.Event{Kind: impl.EvPublish, Text: target, Version: version(-7, text)}
}

func purgeOf(kind int, text string) impl.Event {
	return impl.Event{Kind: impl.EvPurge, N: kind, Text: text}
}

func deliver(node int, n int) impl.Event {
	return impl.Event{Kind: impl.EvDeliver, Node: node, N: n}
}

func at(kind int, node int) impl.Event {
	return impl.Event{Kind: kind, Node: node}
}

// busy is a world in which something of each kind has happened.
func busy() impl.World {
	return impl.RunWorld(worldOf(10, -1, 0, 0), []impl.Event{
		getAt(1, get("/a", "x", "y")), getAt(2, get("/long", "range", "bytes=2-9")), joinAt(1, get("/a")), joinAt(1, get("/./a", "x", "y")), joinAt(2, get("/l")),
		wait(5), purgeOf(impl.PurgeKey, "h/q"), wait(3), purgeOf(impl.PurgeName, "nobody"), deliver(1, 1), deliver(1, 0), getAt(1, get("/a")),
	})
}

func isWorldBy(w impl.World) bool {
	within := func(at int) bool { return 0 <= at && at <= w.Now }
	for i, x := range w.Issued {
		later := slices.ContainsFunc(w.Issued[:i], func(y impl.Issue) bool { return y.At > x.At })
		if x.Purge.Seq != i+1 || !isPurgeBy(x.Purge) || !within(x.At) || later {
			return false
		}
	}
	for _, g := range w.Given {
		if g.Node < 0 || g.Node >= len(w.Net.Nodes) || !within(g.At) || !arePurgesBy(g.Known) {
			return false
		}
	}
	return impl.IsNetwork(w.Net) && 0 <= w.Now && w.Now <= impl.MaxTime && areFlightsBy(w.Flights, len(w.Net.Nodes)) && len(w.Given) <= 60 && len(w.Issued) <= 12 && len(w.Issued) == w.Net.Seq
}

// notes adds the answers of a node.
func notes(w *impl.World, node int, requests []impl.Request, answers []impl.Response) {
	for i, x := range answers {
		w.Given = append(w.Given, impl.Given{Node: node, Request: requests[i], Response: x, At: w.Now, Known: w.Net.Nodes[node].Purges})
	}
}

// happenedBy says what an event does, as the chapter has it.
func happenedBy(w impl.World, e impl.Event) (impl.World, bool) {
	next, ok := copied(w), false
	if !isWorldBy(w) || e.Node < 0 || e.Node >= len(w.Net.Nodes) {
		return w, false
	}
	node := &next.Net.Nodes[e.Node]
	switch e.Kind {
	case 1:
		net, x := impl.FetchPage(w.Net, e.Node, e.Request, w.Now)
		next.Net, ok = net, len(w.Given) < 60
		notes(&next, e.Node, []impl.Request{e.Request}, []impl.Response{x})
	case 2:
		l, i := impl.JoinFlight(w.Flights, e.Node, e.Request)
		next.Flights, ok = l, i != -1
	case 3:
		if e.N < 0 || e.N >= len(w.Flights) || len(w.Given)+len(w.Flights[e.N].Waits) > 60 {
			break
		}
		f := w.Flights[e.N]
		net, l := impl.LandFlight(w.Net, f, w.Now)
		next.Net, ok = net, true
		notes(&next, f.Node, f.Waits, l)
		next.Flights = append(slices.Clone(w.Flights[:e.N]), w.Flights[e.N+1:]...)
	case 4:
		next.Now, ok = w.Now+e.N, 1 <= e.N && e.N <= 1000 && w.Now+e.N <= impl.MaxTime
	case 5:
		next.Net.Origin, ok = impl.PublishPage(w.Net.Origin, e.Text, impl.Version{At: w.Now + 1, Text: e.Version.Text, Gone: e.Version.Gone})
	case 6:
		net, p, issued := impl.IssuePurge(w.Net, e.N, e.Text)
		next.Net, ok = net, issued && len(w.Issued) < 12
		next.Issued = append(next.Issued, impl.Issue{Purge: p, At: w.Now})
	case 7:
		if 0 <= e.N && e.N < len(w.Issued) {
			next.Net, ok = impl.DeliverPurge(w.Net, e.Node, w.Issued[e.N].Purge)
		}
	case 8:
		node.Cut, ok = !node.Cut, true
	case 9:
		if node.Down {
			*node = impl.Node{Up: node.Up, Cut: node.Cut, Policy: node.Policy, Room: node.Room}
		} else {
			node.Down = true
		}
		ok = true
	}
	if !ok {
		return w, false
	}
	return next, true
}

// happened looks whether an event does what it does in another way, and leaves a world.
func happened(t *testing.T, w impl.World, e impl.Event, succeeds bool) impl.World {
	t.Helper()
	want, wantOK := happenedBy(copied(w), e)
	before := copied(w)
	got, ok := impl.ApplyEvent(w, e)
	if !alike(got, want) || ok != wantOK || ok != succeeds {
		t.Fatalf("ApplyEvent(%+v, %+v) = %+v, %v, want %+v, %v", before, e, got, ok, want, succeeds)
	}
	if !alike(w, before) {
		t.Fatalf("ApplyEvent changes its argument to %+v", w)
	}
	if impl.IsWorld(got) != impl.IsWorld(before) || impl.IsWorld(got) != isWorldBy(got) {
		t.Fatalf("after %+v, %+v is a world: %v", e, got, impl.IsWorld(got))
	}
	return got
}

func TestLimitsOfWorlds(t *testing.T) {
	if impl.MaxGiven != 60 || impl.MaxIssued != 12 {
		t.Error(impl.MaxGiven, impl.MaxIssued)
	}
	kinds := []int{impl.EvGet, impl.EvJoin, impl.EvLand, impl.EvWait, impl.EvPublish, impl.EvPurge, impl.EvDeliver, impl.EvCut, impl.EvDown}
	for i, kind := range kinds {
		if kind != i+1 {
			t.Errorf("the kind %d is %d", i+1, kind)
		}
	}
}

// issues are so many purges of all, one each second.
func issues(n int) []impl.Issue {
	l := []impl.Issue{}
	for i := range n {
		l = append(l, impl.Issue{Purge: purge(i+1, impl.PurgeAll, ""), At: i})
	}
	return l
}

func TestIsWorld(t *testing.T) {
	check := func(what string, want bool, change func(w *impl.World)) {
		t.Helper()
		w := copied(busy())
		change(&w)
		if got := impl.IsWorld(w); got != want || isWorldBy(w) != want {
			t.Errorf("IsWorld with %s = %v, want %v", what, got, want)
		}
	}
	check("nothing changed", true, func(w *impl.World) {})
	check("nothing at all", false, func(w *impl.World) { *w = impl.World{} })
	check("a network that is none", false, func(w *impl.World) { w.Net.Nodes[2].Room = -1 })
	check("an origin that is none", false, func(w *impl.World) { w.Net.Origin.Host = "" })
	for now, want := range map[int]bool{math.MinInt: false, -1: false, 0: false, 17: false, 18: true, 19: true, impl.MaxTime: true, impl.MaxTime + 1: false, math.MaxInt: false} {
		check("the time "+strconv.Itoa(now), want, func(w *impl.World) { w.Now = now })
	}
	for now, want := range map[int]bool{math.MinInt: false, -1: false, 0: true, 1: true, impl.MaxTime: true, impl.MaxTime + 1: false, math.MaxInt: false} {
		check("an empty world at another time", want, func(w *impl.World) { *w = worldOf(0, -1); w.Now = now })
	}
	// Flights.
	check("no flights", true, func(w *impl.World) { w.Flights = nil })
	check("an empty flight", false, func(w *impl.World) { w.Flights[1].Waits = nil })
	check("a flight of no node", false, func(w *impl.World) { w.Flights[1].Node = 3 })
	check("a flight of another node", true, func(w *impl.World) { w.Flights[1].Node = 0 })
	check("a request that is not simple", false, func(w *impl.World) { w.Flights[0].Waits[1] = head("/a") })
	check("too many flights", false, func(w *impl.World) { w.Flights = slices.Repeat(w.Flights[:1], 7) })
	// Answers.
	for n := range 64 {
		check(strconv.Itoa(n)+" answers", n <= 60, func(w *impl.World) { w.Given = slices.Repeat(w.Given[:1], n) })
	}
	for i := range 3 {
		for node, want := range map[int]bool{math.MinInt: false, -1: false, 0: true, 1: true, 2: true, 3: false, math.MaxInt: false} {
			check("an answer of another node", want, func(w *impl.World) { w.Given[i].Node = node })
		}
		for at, want := range map[int]bool{math.MinInt: false, -1: false, 0: true, 10: true, 18: true, 19: false, math.MaxInt: false} {
			check("an answer of another time", want, func(w *impl.World) { w.Given[i].At = at })
		}
		check("purges of another order", false, func(w *impl.World) { w.Given[i].Known = []impl.Purge{purge(2, 1, ""), purge(1, 1, "")} })
		check("a purge that is none", false, func(w *impl.World) { w.Given[i].Known = []impl.Purge{purge(1, 1, ""), purge(2, 4, "")} })
		check("as many purges as may be, of later numbers", true, func(w *impl.World) { w.Given[i].Known = somePurges(20) })
		check("too many purges", false, func(w *impl.World) { w.Given[i].Known = somePurges(21) })
		check("another answer, another request", true, func(w *impl.World) {
			w.Given[i].Response, w.Given[i].Request = answer(-5, strings.Repeat("x", 999), "A", ""), impl.Request{}
		})
	}
	// Purges that were issued.
	for n := range 16 {
		check(strconv.Itoa(n)+" purges", 2 <= n && n <= 12, func(w *impl.World) { w.Issued, w.Net.Seq = issues(n), n })
		check(strconv.Itoa(n)+" purges, which the network does not have", n == 2, func(w *impl.World) { w.Issued = issues(n) })
		check(strconv.Itoa(n)+" purges, which were not issued", n == 2, func(w *impl.World) { w.Net.Seq = n })
	}
	for i := range 2 {
		for _, seq := range []int{math.MinInt, -1, 0, 1, 2, 3, math.MaxInt} {
			check("another number", seq == i+1, func(w *impl.World) { w.Issued[i].Purge.Seq = seq })
		}
		check("a purge of no kind", false, func(w *impl.World) { w.Issued[i].Purge.Kind = 0 })
		check("a purge of all with a text", false, func(w *impl.World) { w.Issued[i].Purge = purge(i+1, impl.PurgeAll, "x") })
		check("another purge", true, func(w *impl.World) { w.Issued[i].Purge = purge(i+1, impl.PurgeAll, "") })
		for at, want := range map[int][]bool{math.MinInt: {false, false}, -1: {false, false}, 0: {true, false}, 14: {true, false}, 15: {true, true}, 18: {true, true}, 19: {false, false}, math.MaxInt: {false, false}} {
			check("a purge at another time", want[i], func(w *impl.World) { w.Issued[i].At = at })
		}
	}
	check("all purges at the first second", true, func(w *impl.World) { w.Issued[0].At, w.Issued[1].At = 0, 0 })
	check("all purges now", true, func(w *impl.World) { w.Issued[0].At, w.Issued[1].At = 18, 18 })
}

func TestNewWorld(t *testing.T) {
	for _, x := range []struct {
		o    impl.Origin
		ups  []int
		room int
		now  int
		want bool
	}{
		{shop(), []int{-1}, 0, 0, true}, {shop(), []int{-1, 0, 1, 2, 3}, 5000, impl.MaxTime, true}, {originOf(), []int{-1, -1}, 7, 99, true},
		{shop(), []int{-1}, 1, -1, false}, {shop(), []int{-1}, 1, impl.MaxTime + 1, false}, {shop(), []int{-1}, 1, math.MinInt, false}, {shop(), []int{-1}, 1, math.MaxInt, false}, {shop(), nil, 1, 5, false}, {shop(), []int{0}, 1, 5, false}, {shop(), []int{-1, 0, 1, 2, 3, 4}, 1, 5, false}, {shop(), []int{-1}, -1, 5, false}, {shop(), []int{-1}, 5001, 5, false}, {impl.Origin{}, []int{-1}, 1, 5, false},
	} {
		want := impl.World{}
		if x.want {
			want.Net, _ = impl.NewNetwork(x.o, x.ups, x.room)
			want.Now = x.now
		}
		if got, ok := impl.NewWorld(x.o, x.ups, x.room, x.now); !alike(got, want) || ok != x.want || impl.IsWorld(got) != x.want {
			t.Errorf("NewWorld(%v, %d, %d) = %+v, %v", x.ups, x.room, x.now, got, ok)
		}
	}
}

// someEvents are events of all kinds that succeed in the world of busy.
func someEvents() []impl.Event {
	return []impl.Event{getAt(1, get("/a")), joinAt(1, get("/a")), land(0), wait(1), publish("/l", "next"), purgeOf(impl.PurgeAll, ""), deliver(0, 0), at(impl.EvCut, 1), at(impl.EvDown, 2)}
}

func TestEventsThatNeverSucceed(t *testing.T) {
	broken := copied(busy())
	broken.Net.Seq++
	for i, e := range someEvents() {
		happened(t, busy(), e, true)
		// In a world that is none, at a node that is none, and of a kind that is none.
		happened(t, broken, e, false)
		happened(t, impl.World{}, e, false)
		for _, node := range []int{math.MinInt, -1, 3, math.MaxInt} {
			e := e
			e.Node = node
			happened(t, busy(), e, false)
		}
		for _, kind := range []int{math.MinInt, -1, 0, 10, 11, math.MaxInt} {
			e := e
			e.Kind = kind
			happened(t, busy(), e, false)
		}
		if e.Kind != i+1 {
			t.Errorf("the event %d has the kind %d", i+1, e.Kind)
		}
	}
	happened(t, busy(), impl.Event{}, false)
}

func TestEventsOfRequests(t *testing.T) {
	w := happened(t, worldOf(10, -1, 0), getAt(1, get("/a")), true)
	w = happened(t, w, wait(5), true)
	for _, r := range []impl.Request{get("/a"), head("/a"), get("/%"), {}, get("/a", "range", "bytes=0-0"), request("POST", "h", "/a")} {
		w = happened(t, w, getAt(1, r), true)
		if g := w.Given[len(w.Given)-1]; g.Node != 1 || g.At != 15 || !sameRequest(g.Request, r) || len(g.Known) > 0 {
			t.Errorf("%q gives %+v", r, g)
		}
	}
	// Nodes that fail answer as well; what they know then is noted.
	for _, e := range []impl.Event{at(impl.EvCut, 1), at(impl.EvDown, 1)} {
		failed := happened(t, happened(t, w, e, true), getAt(1, get("/new")), true)
		if g := failed.Given[len(failed.Given)-1]; g.Response.Code < 500 {
			t.Errorf("after %+v: %+v", e, g)
		}
	}
	w = happened(t, busy(), getAt(1, get("/l")), true)
	if g := w.Given[len(w.Given)-1]; len(g.Known) != 2 || g.Known[0].Seq != 1 || len(w.Given[0].Known) != 0 {
		t.Errorf("the last answer is %+v", g)
	}
	w = happened(t, busy(), getAt(2, get("/l")), true)
	if g := w.Given[len(w.Given)-1]; len(g.Known) != 0 {
		t.Errorf("the last answer is %+v", g)
	}
	// As many answers as there may be.
	for i := range 63 {
		w = happened(t, w, getAt(i%3, get("/a")), len(w.Given) < 60)
	}
	if len(w.Given) != 60 || !impl.IsWorld(w) {
		t.Errorf("there are %d answers", len(w.Given))
	}
	// Other events go on.
	for _, e := range someEvents()[1:] {
		happened(t, w, e, e.Kind != impl.EvLand)
	}
}

func TestEventsOfFlights(t *testing.T) {
	w := busy()
	for _, r := range []impl.Request{get("/a", "range", "bytes=0-0"), get("/a", "authorization", "u"), head("/a"), get("/%"), {}} {
		happened(t, w, joinAt(1, r), false)
	}
	for _, n := range []int{math.MinInt, -1, 2, 3, math.MaxInt} {
		happened(t, w, land(n), false)
	}
	// Any node may be that of the event: the one of the flight answers, with what it knows.
	for node := range 3 {
		e := land(0)
		e.Node = node
		after := happened(t, w, e, true)
		last := after.Given[len(after.Given)-2:]
		if len(after.Flights) != 1 || after.Flights[0].Node != 2 || len(after.Given) != 5 || last[0].Node != 1 || last[1].Request.Target != "/./a" || len(last[0].Known) != 2 || len(last[1].Known) != 2 {
			t.Errorf("after a flight has landed: %+v", after)
		}
		e.N = 1
		after = happened(t, w, e, true)
		if len(after.Flights) != 1 || after.Flights[0].Node != 1 || after.Given[3].Node != 2 || len(after.Given[3].Known) != 0 {
			t.Errorf("after the other flight has landed: %+v", after)
		}
	}
	w = happened(t, happened(t, w, land(1), true), land(0), true)
	happened(t, w, land(0), false)
	// Flights that are full, and as many as there may be.
	for i := range 32 {
		w = happened(t, w, joinAt(0, get("/late")), i < 30)
	}
	happened(t, w, joinAt(1, get("/late")), false)
	w = happened(t, w, land(3), true)
	w = happened(t, w, joinAt(1, get("/late")), true)
	happened(t, w, joinAt(1, get("/late")), true)
	happened(t, w, joinAt(1, get("/l")), false)
	// More answers than there is room for: five waits and room for four, five, and six.
	for count, want := range map[int]bool{54: true, 55: true, 56: false, 59: false, 60: false} {
		for len(w.Given) < count {
			w = happened(t, w, getAt(0, get("/a")), true)
		}
		full := copied(w)
		full.Given = full.Given[:count]
		after := happened(t, full, land(0), want)
		if want && len(after.Given) != count+5 {
			t.Errorf("after %d answers and a flight there are %d", count, len(after.Given))
		}
		// One request has room as long as there is any.
		happened(t, full, land(5), count < 60)
	}
	// Nothing is answered when it joins.
	joined := happened(t, worldOf(10, -1, 0), joinAt(1, get("/a")), true)
	if joined.Net.Asks != 0 || len(joined.Given) != 0 {
		t.Errorf("after a request has joined: %+v", joined)
	}
	waited := happened(t, joined, wait(50), true)
	waited = happened(t, waited, land(0), true)
	if g := waited.Given[0]; g.At != 60 || g.Response.Body != "three" {
		t.Errorf("what has waited gets %+v", g)
	}
}

func TestEventsOfTime(t *testing.T) {
	for n, want := range map[int]bool{math.MinInt: false, -1: false, 0: false, 1: true, 2: true, 999: true, 1000: true, 1001: false, math.MaxInt: false, impl.MaxTime: false} {
		w := happened(t, busy(), wait(n), want)
		if want && w.Now != 18+n {
			t.Errorf("after %d seconds it is %d", n, w.Now)
		}
	}
	for left := range 5 {
		w := worldOf(impl.MaxTime-left, -1)
		for n := 1; n < 7; n++ {
			happened(t, w, wait(n), n <= left)
		}
		happened(t, w, wait(1000), false)
	}
}

func TestEventsOfPages(t *testing.T) {
	w := busy()
	for i := 1; i < 8; i++ {
		w = happened(t, w, publish("/l", "version "+strconv.Itoa(i)), true)
		// There is one from the next second on already.
		happened(t, w, publish("/l", "again"), false)
		versions := w.Net.Origin.Resources[1].Versions
		if last := versions[len(versions)-1]; len(versions) != i+1 || last.At != w.Now+1 || last.Text != "version "+strconv.Itoa(i) {
			t.Errorf("the versions are %+v", versions)
		}
		w = happened(t, w, wait(1), true)
	}
	happened(t, w, publish("/l", "one too many"), false)
	// Nothing changes before its time.
	w = happened(t, happened(t, worldOf(10, -1), publish("/l", "next"), true), getAt(0, get("/l")), true)
	w = happened(t, happened(t, w, wait(1), true), getAt(0, controlled("/l", "no-cache")), true)
	if w.Given[0].Response.Body != "[de]text" || w.Given[1].Response.Body != "[de]next" {
		t.Errorf("the answers are %+v", w.Given)
	}
	// A page that has a version at 50: none before, at the same time, or with a time of its own.
	for now, want := range map[int]bool{10: false, 48: false, 49: false, 50: true, 51: true, impl.MaxTime - 1: true, impl.MaxTime: false} {
		for _, own := range []int{math.MinInt, 0, 51, now, now + 2, math.MaxInt} {
			e := publish("/a", "next")
			e.Version.At = own
			happened(t, worldOf(now, -1), e, want)
		}
	}
	for _, e := range []impl.Event{publish("/none", "x"), publish("", "x"), publish("/./l", "x"), publish("/a/../l", "x"), publish("l", "x"), publish("/l", strings.Repeat("x", 401))} {
		happened(t, busy(), e, false)
	}
	gone := publish("/l", "")
	gone.Version.Gone = true
	w = happened(t, busy(), gone, true)
	if v := w.Net.Origin.Resources[1].Versions[1]; !v.Gone || v.Text != "" {
		t.Errorf("the page becomes %+v", v)
	}
	happened(t, busy(), publish("/l", strings.Repeat("x", 400)), true)
}

func TestEventsOfPurges(t *testing.T) {
	w := worldOf(10, -1, 0)
	for i := range 15 {
		w = happened(t, w, purgeOf(1+i%3, []string{"", "h/a", "k1"}[i%3]), i < 12)
		if i%4 == 0 {
			w = happened(t, w, wait(3), true)
		}
	}
	if len(w.Issued) != 12 || w.Net.Seq != 12 || w.Issued[11].At != 19 || w.Issued[0].At != 10 || w.Issued[1].At != 13 {
		t.Errorf("the purges are %+v", w.Issued)
	}
	for _, e := range []impl.Event{purgeOf(0, ""), purgeOf(4, ""), purgeOf(-1, "x"), purgeOf(impl.PurgeAll, "x"), purgeOf(impl.PurgeKey, strings.Repeat("x", 161)), purgeOf(math.MinInt, ""), purgeOf(math.MaxInt, "")} {
		happened(t, busy(), e, false)
	}
	happened(t, busy(), purgeOf(impl.PurgeName, strings.Repeat("x", 160)), true)
	// Delivered in any order, late, and not twice to one node.
	for _, n := range []int{math.MinInt, -1, 12, 13, math.MaxInt} {
		happened(t, w, deliver(0, n), false)
	}
	w = happened(t, w, wait(1000), true)
	for _, n := range []int{11, 0, 5, 5, 11, 3} {
		told := slices.ContainsFunc(w.Net.Nodes[1].Purges, func(p impl.Purge) bool { return p.Seq == n+1 })
		w = happened(t, w, deliver(1, n), !told)
		w = happened(t, w, deliver(0, n), !told)
		happened(t, w, deliver(1, n), false)
	}
	if l := w.Net.Nodes[1].Purges; len(l) != 4 || l[0].Seq != 1 || l[3].Seq != 12 || len(w.Issued) != 12 {
		t.Errorf("the node knows %+v", l)
	}
	// What is hit is forgotten, and answered from behind the purge.
	w = impl.RunWorld(worldOf(10, -1, 0), []impl.Event{getAt(1, get("/a")), wait(2), purgeOf(impl.PurgeKey, "h/a"), wait(2), deliver(1, 0), getAt(1, get("/a"))})
	if g := w.Given[1]; impl.StampOf(g.Response) != 1 || impl.AgeField(g.Response) != 0 || w.Net.Asks != 2 || len(g.Known) != 1 {
		t.Errorf("after the purge: %+v", g)
	}
}

func TestEventsOfLinksAndNodes(t *testing.T) {
	w := busy()
	w.Net.Nodes[1].Policy = []impl.Rule{rule(impl.ActionCap, "/", 5)}
	w.Net.Nodes[1].Room = 77
	for i := range 3 {
		once := happened(t, w, at(impl.EvCut, i), true)
		twice := happened(t, once, at(impl.EvCut, i), true)
		if !once.Net.Nodes[i].Cut || !alike(twice, w) {
			t.Errorf("after node %d was cut: %+v, and then %+v", i, once.Net.Nodes[i], twice.Net.Nodes[i])
		}
		once = happened(t, w, at(impl.EvDown, i), true)
		down := copied(w)
		down.Net.Nodes[i].Down = true
		if !alike(once, down) {
			t.Errorf("after node %d is down: %+v", i, once)
		}
		twice = happened(t, once, at(impl.EvDown, i), true)
		anew := copied(w)
		anew.Net.Nodes[i] = impl.Node{Up: w.Net.Nodes[i].Up, Policy: w.Net.Nodes[i].Policy, Room: w.Net.Nodes[i].Room}
		if !alike(twice, anew) {
			t.Errorf("after node %d starts anew: %+v", i, twice)
		}
		// It stays cut.
		cut := impl.RunWorld(w, []impl.Event{at(impl.EvCut, i), at(impl.EvDown, i), at(impl.EvDown, i)})
		anew.Net.Nodes[i].Cut = true
		if !alike(cut, anew) {
			t.Errorf("after node %d, which is cut, starts anew: %+v", i, cut)
		}
		// It knows no purges any more, so that it can be told of them again.
		for n := range 2 {
			happened(t, twice, deliver(i, n), true)
		}
	}
	// Flights do not mind.
	if after := happened(t, happened(t, w, at(impl.EvDown, 1), true), land(0), true); after.Given[3].Response.Code != 502 {
		t.Errorf("a node that is down answers %+v", after.Given[3])
	}
}

// anyEvent is an event of any kind, which may not succeed.
func anyEvent(d *dice, nodes int) impl.Event {
	e := impl.Event{Kind: 1 + d.roll(9), Node: d.roll(nodes), N: d.roll(4), Text: pick(d, []string{"/a", "/l", "/long", "/late", "", "h/a", "k1"})}
	switch e.Kind {
	case impl.EvGet:
		e.Request = anyRequest(d)
	case impl.EvJoin:
		e.Request = get(pick(d, []string{"/a", "/./a", "/l", "/late", "/long", "/always"}))
		e.Request.Fields = pairs(pick(d, [][]string{nil, {"accept-language", "en"}, {"range", "bytes=0-0"}})...)
	case impl.EvWait:
		e.N = d.roll(12)
	case impl.EvPublish:
		e.Version = version(d.roll(99), "published "+strconv.Itoa(d.roll(99)))
	case impl.EvCut, impl.EvDown:
		// Not so often, so that there are answers, too.
		if d.roll(3) > 0 {
			e = getAt(e.Node, anyRequest(d))
		}
	}
	if d.roll(60) == 0 {
		e.Node, e.Kind = d.roll(8)-1, d.roll(13)-1
	}
	return e
}

// anyWorld is a world with policies and rooms of all kinds.
func anyWorld(d *dice) impl.World {
	n := anyNetwork(d)
	return impl.World{Net: n, Now: d.roll(20)}
}

// Every event keeps a world as it should be, whether it succeeds or not, and some events and then some more do what all of them do at once.
func TestEveryEventKeepsAWorldAsItShouldBe(t *testing.T) {
	d := &dice{state: 320}
	done := map[int]int{}
	for range 60 {
		first := anyWorld(d)
		w, l := first, []impl.Event{}
		for range 70 {
			e := anyEvent(d, len(w.Net.Nodes))
			_, succeeds := happenedBy(copied(w), e)
			w = happened(t, w, e, succeeds)
			if !impl.IsWorld(w) {
				t.Fatalf("after %+v, %+v is no world", e, w)
			}
			if succeeds {
				done[e.Kind]++
			} else {
				done[-e.Kind]++
			}
			l = append(l, e)
		}
		for _, k := range []int{0, 1, d.roll(70), 70} {
			before := copied(first)
			some := impl.RunWorld(first, l[:k])
			if all := impl.RunWorld(some, l[k:]); !alike(all, w) || !alike(first, before) {
				t.Fatalf("%d events and then the others give %+v, want %+v", k, all, w)
			}
		}
	}
	for kind := 1; kind <= 9; kind++ {
		if done[kind] < 20 || done[-kind] < 10 && kind != impl.EvCut && kind != impl.EvDown && kind != impl.EvGet {
			t.Errorf("events of the kind %d succeed %d times and fail %d times", kind, done[kind], done[-kind])
		}
	}
}

func TestRunWorld(t *testing.T) {
	w := busy()
	for _, l := range [][]impl.Event{nil, {{}}, {land(9), wait(0), deliver(0, 7), getAt(5, get("/a"))}} {
		if got := impl.RunWorld(w, l); !alike(got, w) {
			t.Errorf("after %+v: %+v", l, got)
		}
	}
	// What does not succeed does not stop what is behind it.
	got := impl.RunWorld(w, []impl.Event{wait(0), wait(3), wait(1001), {}, wait(4), land(-1), at(impl.EvCut, 0)})
	want := copied(w)
	want.Now, want.Net.Nodes[0].Cut = 25, true
	if !alike(got, want) {
		t.Errorf("the world becomes %+v", got)
	}
	broken := copied(w)
	broken.Now = -1
	if got := impl.RunWorld(broken, someEvents()); !alike(got, broken) {
		t.Errorf("what is no world becomes %+v", got)
	}
	if got := impl.RunWorld(impl.World{}, someEvents()); !alike(got, impl.World{}) {
		t.Errorf("nothing becomes %+v", got)
	}
}

func TestWorldsShareNoMemory(t *testing.T) {
	type history struct {
		W impl.World
		L []impl.Event
	}
	broken := copied(busy())
	broken.Now = 0
	failing := []impl.Event{wait(0), land(5), joinAt(0, head("/a")), publish("/none", ""), purgeOf(0, ""), deliver(0, 9), {}}
	for _, w := range []impl.World{busy(), broken, {}} {
		for _, l := range [][]impl.Event{nil, someEvents(), failing} {
			checkApart(t, "RunWorld", history{w, l}, func(h history) []any {
				return []any{impl.RunWorld(h.W, h.L), impl.IsWorld(h.W)}
			})
			for i := range l {
				checkApart(t, "ApplyEvent", history{w, l}, func(h history) []any {
					next, ok := impl.ApplyEvent(h.W, h.L[i])
					return []any{next, ok}
				})
			}
		}
	}
	type plan struct {
		O   impl.Origin
		Ups []int
	}
	for _, ups := range [][]int{{-1, 0, 1}, {1}, nil} {
		checkApart(t, "NewWorld", plan{shop(), ups}, func(p plan) []any {
			made, ok := impl.NewWorld(p.O, p.Ups, 9, 9)
			return []any{made, ok}
		})
	}
}
