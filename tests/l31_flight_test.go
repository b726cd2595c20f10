package tests

import (
	"math"
	"slices"
	"strings"
	"testing"

	"loop.example/g03012/impl"
)

// specialNames are the fields of requests that get answers of their own.
var specialNames = []string{"range", "authorization", "cache-control", "if-match", "if-none-match", "if-modified-since", "if-unmodified-since", "if-range"}

func isSimpleBy(r impl.Request) bool {
	_, hasKey := impl.KeyOf(r)
	return r.Method == "GET" && hasKey && !slices.ContainsFunc(names(r.Fields), func(name string) bool { return slices.Contains(specialNames, name) })
}

func keyBy(r impl.Request) string {
	key, _ := impl.KeyOf(r)
	return key
}

func areFlightsBy(l []impl.Flight, nodes int) bool {
	for _, f := range l {
		keys := map[string]bool{}
		for _, r := range f.Waits {
			if !isSimpleBy(r) {
				return false
			}
			keys[keyBy(r)] = true
		}
		if f.Node < 0 || f.Node >= nodes || len(keys) != 1 || len(f.Waits) > 5 {
			return false
		}
	}
	return len(l) <= 6
}

// joinedBy looks at all flights from the last to the first.
func joinedBy(l []impl.Flight, node int, r impl.Request) ([]impl.Flight, int) {
	l = copied(l)
	at := len(l)
	for i := len(l) - 1; i >= 0; i-- {
		if n := len(l[i].Waits); l[i].Node == node && n > 0 && n < 5 && keyBy(l[i].Waits[0]) == keyBy(r) {
			at = i
		}
	}
	if !isSimpleBy(r) || at == len(l) && at > 5 {
		return l, -1
	}
	if at == len(l) {
		l = append(l, impl.Flight{Node: node})
	}
	l[at].Waits = append(l[at].Waits, copied(r))
	return l, at
}

func flight(node int, l ...impl.Request) impl.Flight {
	return impl.Flight{Node: node, Waits: l}
}

// joined looks whether a request joins as it does in another way, and keeps the argument.
func joined(t *testing.T, l []impl.Flight, node int, r impl.Request, wantAt int) []impl.Flight {
	t.Helper()
	want, at := joinedBy(l, node, r)
	before := copied(l)
	got, i := impl.JoinFlight(l, node, r)
	if !alike(got, want) || i != at || i != wantAt || !alike(l, before) {
		t.Fatalf("JoinFlight(%+v, %d, %q) = %+v, %d, want %+v, %d", before, node, r, got, i, want, wantAt)
	}
	return got
}

// landed looks whether the requests of a flight get what they would get one after the other.
func landed(t *testing.T, n impl.Network, f impl.Flight, now int) (impl.Network, []impl.Response) {
	t.Helper()
	m := model{n: copied(n), now: now}
	want := []impl.Response{}
	for _, r := range f.Waits {
		want = append(want, m.answers(f.Node, r))
	}
	before := copied(n)
	got, l := impl.LandFlight(n, f, now)
	if !alike(l, want) || !alike(got, m.n) || !alike(n, before) || !impl.IsNetwork(got) {
		t.Fatalf("LandFlight(%+v, %+v, %d) = %+v, %+v, want %+v, %+v", before, f, now, got, l, m.n, want)
	}
	return got, l
}

func TestLimitsOfFlights(t *testing.T) {
	if impl.MaxFlights != 6 || impl.MaxWaits != 5 {
		t.Error(impl.MaxFlights, impl.MaxWaits)
	}
}

func TestIsSimple(t *testing.T) {
	check := func(r impl.Request, want bool) {
		t.Helper()
		if got := impl.IsSimple(r); got != want || isSimpleBy(r) != want {
			t.Errorf("IsSimple(%q) = %v, want %v", r, got, want)
		}
	}
	check(get("/a"), true)
	for _, name := range specialNames {
		for _, value := range []string{"", "x", `"0//"`, "bytes=0-0", "max-age=5"} {
			check(get("/a", name, value), false)
			check(get("/a", "accept-language", "de", name, value), false)
			check(get("/a", name, value, "x", "y"), false)
		}
		check(get("/a", name+"x", "v"), true)
		check(get("/a", "x-"+name, "v"), true)
		check(get("/a", name[1:], "v"), true)
		check(get("/a", "x", name), true)
	}
	for _, name := range []string{"accept-language", "age", "if", "if-", "if-unknown", "etag", "vary", "x-purge", "pragma", "cookie", "content-range", "date"} {
		check(get("/a", name, "v", name, "w"), true)
	}
	for _, method := range []string{"HEAD", "POST", "OPTIONS", "PUT", "get", "Get", "", "GET ", "GETS"} {
		check(request(method, "h", "/a"), false)
	}
	// Requests without a key.
	for _, r := range []impl.Request{get("/%"), get("/%4"), get("a"), get(""), get("/a b"), request("GET", "", "/a"), request("GET", "H", "/a"), get("/a", "A", "b"), get("/a", "host", "h"), get("/" + strings.Repeat("a", 100)), manyAsked("GET", "/a", 24), {}} {
		check(r, false)
	}
	for _, r := range []impl.Request{get("/"), get("/./a"), get("/a?y&x"), get("/%61"), request("GET", "other", "/a"), get("/" + strings.Repeat("a", 99)), manyAsked("GET", "/a", 23)} {
		check(r, true)
	}
}

func TestAreFlights(t *testing.T) {
	check := func(want bool, nodes int, l ...impl.Flight) {
		t.Helper()
		if got := impl.AreFlights(l, nodes); got != want || areFlightsBy(l, nodes) != want {
			t.Errorf("AreFlights(%+v, %d) = %v, want %v", l, nodes, got, want)
		}
	}
	for n := range 9 {
		l := slices.Repeat([]impl.Flight{flight(1, get("/a"))}, n)
		check(n <= 6, 2, l...)
		check(n == 0, 1, l...)
		check(n == 0, 0, l...)
		for i := range n {
			one := slices.Clone(l)
			one[i] = flight(1)
			check(false, 2, one...)
			one[i] = flight(1, get("/b"), get("/b"))
			check(n <= 6, 2, one...)
			one[i] = flight(1, get("/b"), get("/a"))
			check(false, 2, one...)
			one[i] = flight(2, get("/a"))
			check(false, 2, one...)
			check(n <= 6, 3, one...)
			one[i] = flight(-1, get("/a"))
			check(false, 2, one...)
		}
		waits := slices.Repeat([]impl.Request{get("/a")}, n)
		check(1 <= n && n <= 5, 1, flight(0, waits...))
		for i := range n {
			one := slices.Clone(waits)
			one[i] = get("/x/../%61", "accept-language", "en")
			check(1 <= n && n <= 5, 1, flight(0, one...))
			for _, r := range []impl.Request{get("/a", "range", "bytes=0-0"), head("/a"), get("/%"), {}} {
				one[i] = r
				check(false, 1, flight(0, one...))
			}
			one[i] = get("/b")
			check(n == 1, 1, flight(0, one...))
			one[i] = request("GET", "i", "/a")
			check(n == 1, 1, flight(0, one...))
		}
	}
	for _, node := range []int{math.MinInt, -1, 0, 1, 4, 5, math.MaxInt} {
		for _, nodes := range []int{math.MinInt, -1, 0, 1, 5, math.MaxInt} {
			check(0 <= node && node < nodes, nodes, flight(node, get("/a")))
		}
	}
	check(true, -1)
	check(true, 0)
	// Two flights may be for the same, also if there is room in the first one.
	check(true, 2, flight(0, get("/a")), flight(0, get("/a")), flight(1, get("/a"), get("/./a")))
}

func TestJoinFlight(t *testing.T) {
	// A flight is full with five requests; the next one takes off then.
	l := []impl.Flight{}
	for i := range 30 {
		l = joined(t, l, 0, get("/a"), i/5)
	}
	for range 3 {
		joined(t, l, 0, get("/a"), -1)
	}
	joined(t, l, 1, get("/a"), -1)
	joined(t, l, 0, get("/b"), -1)
	// Other nodes and other keys before and behind.
	l = joined(t, nil, 1, get("/a"), 0)
	l = joined(t, l, 0, get("/b"), 1)
	l = joined(t, l, 0, get("/a"), 2)
	l = joined(t, l, 0, get("/a"), 2)
	l = joined(t, l, 1, get("/b"), 3)
	l = joined(t, l, 0, request("GET", "i", "/a"), 4)
	l = joined(t, l, 1, get("/a"), 0)
	l = joined(t, l, 2, get("/a"), 5)
	l = joined(t, l, 0, get("/b"), 1)
	joined(t, l, 3, get("/a"), -1)
	joined(t, l, 0, get("/c"), -1)
	for i := range 3 {
		l = joined(t, l, 0, get("/a"), 2)
		if len(l[2].Waits) != 3+i {
			t.Errorf("there are %d requests", len(l[2].Waits))
		}
	}
	joined(t, l, 0, get("/a"), -1)
	if !impl.AreFlights(l, 3) {
		t.Errorf("%+v are no flights", l)
	}
	// Requests that write the target in another way, or ask for another language.
	l = joined(t, nil, 0, get("/q?x&y"), 0)
	for _, r := range []impl.Request{get("/q?y&x"), get("/x/../%71?&x&y&"), get("/q?x&y", "accept-language", "de")} {
		l = joined(t, l, 0, r, 0)
	}
	joined(t, l, 0, get("/q?x&z"), 1)
	joined(t, l, 0, get("/Q?x&y"), 1)
	// Requests that are not simple.
	for _, r := range []impl.Request{get("/q?x&y", "range", "bytes=0-0"), get("/q?x&y", "authorization", "u"), get("/q?x&y", "cache-control", "no-cache"), get("/q?x&y", "if-range", `"0//"`), head("/q?x&y"), get("/%"), {}} {
		joined(t, l, 0, r, -1)
		joined(t, nil, 0, r, -1)
	}
	// Any node.
	for _, node := range []int{math.MinInt, -1, 7, math.MaxInt} {
		joined(t, joined(t, l, node, get("/a"), 1), node, get("/a"), 1)
	}
}

func TestJoiningFlightsThatAreNotValid(t *testing.T) {
	many := slices.Repeat([]impl.Request{get("/a")}, 6)
	for _, x := range []struct {
		l    []impl.Flight
		want int
	}{
		// Without requests, with too many, with a first one that has another key or none.
		{[]impl.Flight{flight(0)}, 1}, {[]impl.Flight{flight(0), flight(0, get("/a"))}, 1}, {[]impl.Flight{flight(0, many...)}, 1}, {[]impl.Flight{flight(0, many[:5]...)}, 1}, {[]impl.Flight{flight(0, many[:4]...)}, 0}, {[]impl.Flight{flight(0, many...), flight(0, many[:4]...)}, 1}, {[]impl.Flight{flight(0, get("/b"), get("/a"))}, 1}, {[]impl.Flight{flight(0, get("/a"), get("/b"))}, 0}, {[]impl.Flight{flight(0, get("/%"), get("/a"))}, 1}, {[]impl.Flight{flight(0, impl.Request{})}, 1},
		// The first request need not be simple.
		{[]impl.Flight{flight(0, head("/a"))}, 0}, {[]impl.Flight{flight(0, get("/a", "range", "bytes=0-0"))}, 0},
		// More flights than there may be: a new one is not possible, but one that is there is.
		{slices.Repeat([]impl.Flight{flight(1, get("/a"))}, 5), 5}, {slices.Repeat([]impl.Flight{flight(1, get("/a"))}, 6), -1}, {slices.Repeat([]impl.Flight{flight(1, get("/a"))}, 7), -1}, {append(slices.Repeat([]impl.Flight{flight(0)}, 8), flight(0, get("/a"))), 8}, {slices.Repeat([]impl.Flight{flight(0)}, 6), -1}, {slices.Repeat([]impl.Flight{flight(0, many[:5]...)}, 6), -1},
	} {
		joined(t, x.l, 0, get("/a"), x.want)
		joined(t, x.l, 0, get("/x/../a", "accept-language", "en"), x.want)
		joined(t, x.l, 0, get("/a", "range", "bytes=0-0"), -1)
	}
}

func TestJoinFlightAgainstAnotherWay(t *testing.T) {
	d := &dice{state: 31}
	indices := map[int]int{}
	for range 300 {
		l := []impl.Flight{}
		for range 60 {
			r := pick(d, []impl.Request{get("/a"), get("/a"), get("/%61", "x", "y"), get("/b"), get("/./b"), request("GET", "i", "/a"), get("/a", "range", ""), head("/b")})
			node := d.roll(2)
			want, at := joinedBy(l, node, r)
			next := joined(t, l, node, r, at)
			if !alike(next, want) || !impl.AreFlights(next, 2) {
				t.Fatalf("%+v are no flights", next)
			}
			indices[at]++
			l = next
			if d.roll(9) == 0 && len(l) > 0 {
				at := d.roll(len(l))
				l = slices.Delete(copied(l), at, at+1)
			}
		}
	}
	for i := -1; i < 6; i++ {
		if indices[i] < 100 {
			t.Errorf("the index %d is returned %d times", i, indices[i])
		}
	}
}

func TestLandFlight(t *testing.T) {
	bodies := func(l []impl.Response) string {
		s := ""
		for _, x := range l {
			s += x.Body + "|"
		}
		return s
	}
	de, en := get("/l", "accept-language", "de"), get("/l", "accept-language", "en")
	for _, x := range []struct {
		f    impl.Flight
		want string
		asks int
	}{
		// One and five requests, for which the origin is asked once.
		{flight(1, get("/a")), "one|", 1}, {flight(1, get("/a"), get("/a"), get("/a"), get("/./a"), get("/%61", "x", "y")), "one|one|one|one|one|", 1},
		// Each one gets its own language.
		{flight(1, de, en, get("/l"), de), "[de]text|[en]text|[de]text|[de]text|", 3}, {flight(1, en, en, de), "[en]text|[en]text|[de]text|", 2},
		// What is not stored is asked for by each of them.
		{flight(1, get("/never"), get("/never"), get("/never")), "text|text|text|", 3}, {flight(1, get("/m"), get("/m")), "text|text|", 2}, {flight(1, get("/always"), get("/always")), "old|old|", 2}, {flight(1, get("/none"), get("/none")), "none|none|", 1}, {flight(1, get("/gone"), get("/gone")), "first|first|", 1}, {flight(1, request("GET", "i", "/a"), request("GET", "i", "/a")), "bad|bad|", 2},
		{flight(0, get("/a"), get("/a")), "one|one|", 1},
	} {
		n, l := landed(t, networkOf(-1, 0), x.f, 10)
		if bodies(l) != x.want || n.Asks != x.asks {
			t.Errorf("%+v gets %q with %d asks, want %q with %d", x.f, bodies(l), n.Asks, x.want, x.asks)
		}
		// The same again: as if they had come one by one.
		m := networkOf(-1, 0)
		for _, r := range x.f.Waits {
			m, _ = impl.FetchPage(m, x.f.Node, r, 10)
		}
		if !alike(m, n) {
			t.Errorf("%+v gives %+v, and one by one %+v", x.f, n, m)
		}
		landed(t, n, x.f, 25)
	}
	// Answers that cannot be got.
	f := flight(1, get("/a"), get("/a"))
	stored, _ := landed(t, networkOf(-1, 0), f, 10)
	for want, n := range map[string]impl.Network{"cut|cut|": cutAt(networkOf(-1, 0), 1), "down|down|": downAt(networkOf(-1, 0), 1), "one|one|": cutAt(stored, 1)} {
		if _, l := landed(t, n, f, 12); bodies(l) != want {
			t.Errorf("the requests get %q, want %q", bodies(l), want)
		}
	}
	if _, l := landed(t, cutAt(stored, 0), f, 30); bodies(l) != "cut|cut|" {
		t.Errorf("the requests get %q", bodies(l))
	}
	denied := copied(stored)
	denied.Nodes[1].Policy = []impl.Rule{rule(impl.ActionDeny, "/a", 0)}
	if _, l := landed(t, denied, flight(1, get("/a"), manyAsked("GET", "/a", 21), get("/a")), 10); bodies(l) != "denied|fields|denied|" {
		t.Errorf("the requests get %q", bodies(l))
	}
	// Times at both ends.
	for now, want := range map[int]string{0: "none|none|", impl.MaxTime: "three|three|"} {
		if _, l := landed(t, networkOf(-1, 0), f, now); bodies(l) != want {
			t.Errorf("at %d the requests get %q", now, bodies(l))
		}
	}
}

func TestFlightsThatDoNotLand(t *testing.T) {
	bad := stocked()
	bad.Nodes[4].Room = -1
	good := flight(0, get("/a"))
	six := flight(0, slices.Repeat([]impl.Request{get("/a")}, 6)...)
	for _, x := range []struct {
		n   impl.Network
		f   impl.Flight
		now int
	}{
		{stocked(), good, -1}, {stocked(), good, impl.MaxTime + 1}, {stocked(), good, math.MinInt}, {stocked(), good, math.MaxInt}, {bad, good, 10}, {impl.Network{}, good, 10},
		{stocked(), impl.Flight{}, 10}, {stocked(), flight(4), 10}, {stocked(), flight(-1, get("/a")), 10}, {stocked(), flight(5, get("/a")), 10}, {stocked(), flight(math.MaxInt, get("/a")), 10}, {stocked(), flight(math.MinInt, get("/a")), 10}, {stocked(), six, 10}, {stocked(), flight(0, get("/a"), get("/b")), 10}, {stocked(), flight(0, get("/a"), get("/a", "range", "bytes=0-0")), 10}, {stocked(), flight(0, head("/a")), 10}, {stocked(), flight(0, get("/%")), 10},
	} {
		if n, l := impl.LandFlight(x.n, x.f, x.now); !alike(n, x.n) || len(l) > 0 {
			t.Errorf("LandFlight(%+v, %+v, %d) = %+v, %+v", x.n, x.f, x.now, n, l)
		}
	}
	if _, l := impl.LandFlight(stocked(), flight(4, get("/a")), 10); len(l) != 1 {
		t.Errorf("the last node gives %+v", l)
	}
}

// Requests that wait together get their own honest answers: each one what the origin gave to this request, whoever waits with it.
func TestRequestsThatWaitTogetherGetTheirOwnHonestAnswers(t *testing.T) {
	d := &dice{state: 32}
	waiting := 0
	for range 60 {
		n, now, l := anyNetwork(d), d.roll(12), []impl.Flight{}
		for range 80 {
			switch d.roll(8) {
			case 0:
				i := d.roll(len(n.Nodes))
				n.Nodes[i].Cut = !n.Nodes[i].Cut
			case 1, 2:
				now += d.roll(9)
			case 3:
				if len(l) == 0 {
					continue
				}
				f := pick(d, l)
				next, answers := landed(t, n, f, now)
				if len(answers) != len(f.Waits) {
					t.Fatalf("%+v gets %d answers", f, len(answers))
				}
				for i, x := range answers {
					checkHonest(t, next, f.Waits[i], now, x)
				}
				waiting += len(answers) - 1
				n, l = next, slices.DeleteFunc(l, func(other impl.Flight) bool { return alike(other, f) })
			default:
				r := get(pick(d, []string{"/a", "/a", "/./a", "/l", "/l", "/%6c", "/late", "/always", "/never", "/long", "/gone", "/none"}))
				r.Fields = pairs(pick(d, [][]string{nil, {"accept-language", "en"}, {"accept-language", "de"}})...)
				l, _ = impl.JoinFlight(l, d.roll(len(n.Nodes)), r)
			}
		}
	}
	if waiting < 200 {
		t.Errorf("just %d requests have waited for others", waiting)
	}
}

func TestFlightsShareNoMemory(t *testing.T) {
	l := []impl.Flight{flight(0, get("/a", "x", "y"), get("/a")), flight(1, get("/b"))}
	for _, r := range []impl.Request{get("/a", "accept-language", "en"), get("/c", "x", "y"), get("/a", "range", "bytes=0-0"), {}} {
		for _, l := range [][]impl.Flight{nil, l, slices.Repeat(l, 3), slices.Repeat(l, 4)} {
			checkApart(t, "JoinFlight", []any{l, r}, func(a []any) []any {
				l, r := a[0].([]impl.Flight), a[1].(impl.Request)
				joined, i := impl.JoinFlight(l, 0, r)
				return []any{joined, i, impl.IsSimple(r), impl.AreFlights(l, 2)}
			})
		}
	}
	for _, f := range []impl.Flight{l[0], l[1], flight(0, get("/a", "x", "y"), get("/b")), {}} {
		for _, n := range []impl.Network{stocked(), downAt(stocked(), 0), {}} {
			checkApart(t, "LandFlight", []any{n, f}, func(a []any) []any {
				next, answers := impl.LandFlight(a[0].(impl.Network), a[1].(impl.Flight), 40)
				return []any{next, answers}
			})
		}
	}
}
