package tests

import (
	"math"
	"slices"
	"strconv"
	"strings"
	"testing"

	"loop.example/g03012/impl"
)

// kept is an entry with this key, the date of which is given, and these selecting fields.
func kept(key string, date int, selecting ...string) impl.Entry {
	e := lettersEntry()
	e.Key, e.Select, e.Head.Fields[0].Value = key, pairs(selecting...), stamp(date)
	return e
}

func storeOf(l ...impl.Entry) impl.Store {
	return impl.Store{Entries: l}
}

// someEntries are n entries with keys of their own.
func someEntries(n int) []impl.Entry {
	l := []impl.Entry{}
	for i := range n {
		l = append(l, kept("h/p"+strconv.Itoa(i), 60+i, "a", "1"))
	}
	return l
}

// dateOfEntry is 0 for an entry without a date.
func dateOfEntry(e impl.Entry) int {
	value, _ := valuesBy(e.Head.Fields, "date")
	t, ok := dateOf(value)
	if !ok {
		return 0
	}
	return t
}

// inPlaceOf tells whether both entries answer the same requests.
func inPlaceOf(a impl.Entry, b impl.Entry) bool {
	return a.Key == b.Key && slices.Equal(a.Select, b.Select)
}

func isStoreBy(s impl.Store) bool {
	for i, e := range s.Entries {
		if i >= 12 || !isEntryBy(e) || slices.ContainsFunc(s.Entries[:i], func(f impl.Entry) bool { return inPlaceOf(e, f) }) {
			return false
		}
	}
	return true
}

// foundBy sorts the entries that answer the request by their dates.
func foundBy(s impl.Store, r impl.Request) int {
	key, ok := impl.KeyOf(r)
	found := []int{}
	for i, e := range s.Entries {
		fits := ok && e.Key == key
		for _, f := range e.Select {
			fits = fits && selectingBy(r, f.Name) == f.Value
		}
		if fits {
			found = append(found, i)
		}
	}
	if len(found) == 0 {
		return -1
	}
	slices.SortStableFunc(found, func(i int, j int) int { return dateOfEntry(s.Entries[i]) - dateOfEntry(s.Entries[j]) })
	return found[len(found)-1]
}

func putBy(s impl.Store, e impl.Entry) impl.Store {
	others := slices.DeleteFunc(slices.Clone(s.Entries), func(f impl.Entry) bool { return inPlaceOf(e, f) })
	if !isStoreBy(s) || !isEntryBy(e) || len(others) > 11 {
		return s
	}
	for _, old := range s.Entries {
		if inPlaceOf(old, e) {
			combined, ok := impl.CombineEntry(old, e)
			if ok {
				e = combined
			}
		}
	}
	return storeOf(append(others, e)...)
}

func checkStoreIs(t *testing.T, what string, got impl.Store, want impl.Store) {
	t.Helper()
	if !alike(got, want) {
		t.Errorf("%s = %+v, want %+v", what, got, want)
	}
}

func TestIsStore(t *testing.T) {
	if impl.MaxEntries != 12 {
		t.Error(impl.MaxEntries)
	}
	for n := range 16 {
		if got := impl.IsStore(storeOf(someEntries(n)...)); got != (n <= 12) {
			t.Errorf("IsStore of %d entries = %v", n, got)
		}
		// One that is not valid, or one that is there twice, at each place.
		for i := range n {
			l := someEntries(n)
			l[i].Got = -1
			if impl.IsStore(storeOf(l...)) {
				t.Errorf("IsStore of %d entries, of which %d is not valid", n, i)
			}
			l = someEntries(n)
			l[i] = kept(l[0].Key, 99, "a", "1")
			if got := impl.IsStore(storeOf(l...)); got != (i == 0 && n <= 12) {
				t.Errorf("IsStore of %d entries, %d with the key of the first = %v", n, i, got)
			}
		}
	}
	for _, x := range []struct {
		a, b []string
		want bool
	}{
		// Selecting fields of entries with the same key.
		{nil, nil, false}, {[]string{"a", "1"}, nil, true}, {nil, []string{"a", ""}, true}, {[]string{"a", "1"}, []string{"a", "2"}, true}, {[]string{"a", "1"}, []string{"b", "1"}, true}, {[]string{"a", "1", "b", "2"}, []string{"b", "2", "a", "1"}, true}, {[]string{"a", "1", "b", "2"}, []string{"a", "1"}, true}, {[]string{"a", "1", "b", "2"}, []string{"a", "1", "b", "2"}, false}, {[]string{"a", "1", "a", "1"}, []string{"a", "1"}, true},
	} {
		a, b := kept("h/a", 60, x.a...), kept("h/a", 70, x.b...)
		a.Length, a.Head.Fields[2].Value = 20, `"v2"`
		if got := impl.IsStore(storeOf(a, b)); got != x.want {
			t.Errorf("IsStore of entries selected by %q and %q = %v", x.a, x.b, got)
		}
		b.Key = "h/A"
		if !impl.IsStore(storeOf(a, kept("h/c", 60), b)) {
			t.Errorf("IsStore of entries with other keys, selected by %q and %q = false", x.a, x.b)
		}
	}
}

func checkFound(t *testing.T, s impl.Store, r impl.Request, want int) {
	t.Helper()
	if got := impl.FindEntry(s, r); got != want {
		t.Errorf("FindEntry(%+v, %q) = %d, want %d", s, r, got, want)
	}
	if by := foundBy(s, r); by != want {
		t.Errorf("%+v, %q should give %d, want %d", s, r, by, want)
	}
}

func TestFindEntry(t *testing.T) {
	r := request("GET", "h", "/x/../a?c&b", "a", "1", "b", "2,  3")
	none := kept("h/a?b&c", 0)
	none.Head.Fields = none.Head.Fields[1:]
	for _, x := range []struct {
		entries []impl.Entry
		want    int
	}{
		{nil, -1}, {[]impl.Entry{kept("h/a?b&c", 60)}, 0}, {[]impl.Entry{kept("h/a?c&b", 60)}, -1}, {[]impl.Entry{kept("h/a", 60), kept("", 60)}, -1}, {[]impl.Entry{kept("h/a", 60), kept("h/a?b&c", 60)}, 1},
		// Selecting fields.
		{[]impl.Entry{kept("h/a?b&c", 60, "a", "1")}, 0}, {[]impl.Entry{kept("h/a?b&c", 60, "a", "2")}, -1}, {[]impl.Entry{kept("h/a?b&c", 60, "b", "2, 3")}, 0}, {[]impl.Entry{kept("h/a?b&c", 60, "b", "2,  3")}, -1}, {[]impl.Entry{kept("h/a?b&c", 60, "c", "")}, 0}, {[]impl.Entry{kept("h/a?b&c", 60, "c", "1")}, -1}, {[]impl.Entry{kept("h/a?b&c", 60, "a", "1", "c", "1")}, -1}, {[]impl.Entry{kept("h/a?b&c", 90, "a", "2"), kept("h/a?b&c", 60, "a", "1"), kept("h/a?b&c", 90, "c", "3")}, 1},
		// The latest one of several, the last of those with the same date, and those without a date.
		{[]impl.Entry{kept("h/a?b&c", 60), kept("h/a?b&c", 70, "a", "1"), kept("h/a?b&c", 65, "b", "2, 3")}, 1}, {[]impl.Entry{kept("h/a?b&c", 70), kept("h/a?b&c", 70, "a", "1"), kept("h/a?b&c", 65, "b", "2, 3")}, 1}, {[]impl.Entry{kept("h/a?b&c", 70), kept("h/a?b&c", 60, "a", "1"), kept("h/a?b&c", 70, "b", "2, 3"), kept("h/x", 99)}, 2}, {[]impl.Entry{kept("h/a?b&c", 70), kept("h/a?b&c", 60, "a", "1")}, 0}, {[]impl.Entry{none}, 0}, {[]impl.Entry{none, none}, 1}, {[]impl.Entry{kept("h/a?b&c", 0), none}, 1}, {[]impl.Entry{none, kept("h/a?b&c", 0)}, 1}, {[]impl.Entry{kept("h/a?b&c", 1), none}, 0}, {[]impl.Entry{none, kept("h/a?b&c", impl.MaxTime), none}, 1},
	} {
		checkFound(t, storeOf(x.entries...), r, x.want)
		head := r
		head.Method = "HEAD"
		checkFound(t, storeOf(x.entries...), head, x.want)
	}
	// Requests without a key.
	s := storeOf(kept("h/a", 60), kept("", 60), kept("h/%", 60))
	for _, r := range []impl.Request{{}, request("GET", "h", "/%"), request("GET", "H", "/a"), request("", "h", "/a"), request("GET", "h", "a"), request("GET", "h", "/a", "A", "b")} {
		checkFound(t, s, r, -1)
	}
	checkFound(t, s, request("POST", "h", "/a"), 0)
	// A store that is none: more entries than there may be, and invalid ones.
	many := someEntries(30)
	many[20] = kept("h/a", 60)
	many[20].Got = -1
	checkFound(t, storeOf(many...), request("GET", "h", "/a"), 20)
}

func TestFindEntryAgainstAnotherWay(t *testing.T) {
	none := kept("h/a", 0)
	none.Head.Fields[0].Value = "x"
	kinds := []impl.Entry{none, kept("h/a", 0, "a", "1"), kept("h/a", 60), kept("h/a", 60, "a", "1"), kept("h/a", 61, "a", "2"), kept("h/b", 99)}
	for n := range 5 {
		for code := range int(math.Pow(6, float64(n))) {
			s := storeOf()
			for range n {
				s.Entries = append(s.Entries, kinds[code%6])
				code /= 6
			}
			for _, r := range []impl.Request{request("GET", "h", "/a", "a", "1"), request("GET", "h", "/a")} {
				checkFound(t, s, r, foundBy(s, r))
			}
		}
	}
}

func TestDropEntry(t *testing.T) {
	for n := range 15 {
		l := someEntries(n)
		for _, at := range []int{math.MinInt, -13, -2, -1, 0, 1, n / 2, n - 1, n, n + 1, 99, math.MaxInt} {
			want := slices.Clone(l)
			if at >= 0 && at < n {
				want = slices.Delete(want, at, at+1)
			}
			checkStoreIs(t, "DropEntry "+strconv.Itoa(at)+" of "+strconv.Itoa(n), impl.DropEntry(storeOf(l...), at), storeOf(want...))
		}
	}
	// A store that is none.
	checkStoreIs(t, "DropEntry of twins", impl.DropEntry(storeOf(kept("k", 1), kept("k", 1), impl.Entry{}), 0), storeOf(kept("k", 1), impl.Entry{}))
}

func TestDropKey(t *testing.T) {
	a, b, c := kept("h/a", 60), kept("h/b", 60), kept("h/a", 70, "x", "1")
	for key, want := range map[string]impl.Store{"h/a": storeOf(b), "h/b": storeOf(a, c), "h/c": storeOf(a, b, c), "": storeOf(a, b, c), "h/A": storeOf(a, b, c), "h/": storeOf(a, b, c), "h/a/": storeOf(a, b, c)} {
		checkStoreIs(t, "DropKey "+key, impl.DropKey(storeOf(a, b, c), key), want)
		checkStoreIs(t, "DropKey "+key, impl.DropKey(impl.Store{}, key), impl.Store{})
	}
	checkStoreIs(t, "DropKey of the empty key", impl.DropKey(storeOf(impl.Entry{}, a, impl.Entry{}), ""), storeOf(a))
	checkStoreIs(t, "DropKey of too many", impl.DropKey(storeOf(someEntries(20)...), "h/p19"), storeOf(someEntries(19)...))
}

func TestPutEntry(t *testing.T) {
	ab, gh := kept("h/a", 60, "x", "1"), kept("h/a", 70, "x", "1")
	ab.Pieces, gh.Pieces = []impl.Piece{piece(0, "ab")}, []impl.Piece{piece(6, "gh")}
	both, differs, other := copied(gh), copied(gh), copied(gh)
	both.Pieces = []impl.Piece{piece(0, "ab"), piece(6, "gh")}
	differs.Pieces = []impl.Piece{piece(1, "x")}
	other.Head.Fields[2].Value = `"v2"`
	none := copied(gh)
	none.Head.Code = 404
	none.Pieces = []impl.Piece{piece(0, "abcdefghij")}
	b, c := kept("h/b", 60), kept("h/a", 60, "x", "2")
	bad := copied(gh)
	bad.Got = -1
	for _, x := range []struct {
		s    impl.Store
		e    impl.Entry
		want impl.Store
	}{
		{storeOf(), ab, storeOf(ab)}, {storeOf(b), ab, storeOf(b, ab)}, {storeOf(b, c), ab, storeOf(b, c, ab)},
		// In the place of an older one, the pieces of which are taken over: of a newer one, and of itself.
		{storeOf(ab), gh, storeOf(both)}, {storeOf(ab, b, c), gh, storeOf(b, c, both)}, {storeOf(b, ab, c), gh, storeOf(b, c, both)}, {storeOf(b, ab), ab, storeOf(b, ab)}, {storeOf(both, b), ab, storeOf(b, func() impl.Entry { e := copied(ab); e.Pieces = both.Pieces; return e }())},
		// Pieces that are not taken over.
		{storeOf(ab, b), differs, storeOf(b, differs)}, {storeOf(ab, b), other, storeOf(b, other)}, {storeOf(ab, b), none, storeOf(b, none)}, {storeOf(none, b), ab, storeOf(b, ab)},
		// What is not valid.
		{storeOf(ab, b), bad, storeOf(ab, b)}, {storeOf(ab, b), impl.Entry{}, storeOf(ab, b)}, {storeOf(bad, b), ab, storeOf(bad, b)}, {storeOf(b, b), ab, storeOf(b, b)}, {storeOf(someEntries(13)...), ab, storeOf(someEntries(13)...)}, {storeOf(someEntries(13)...), someEntries(1)[0], storeOf(someEntries(13)...)}, {storeOf(impl.Entry{}), ab, storeOf(impl.Entry{})},
		// As many as there may be, and one more.
		{storeOf(someEntries(11)...), ab, storeOf(append(someEntries(11), ab)...)}, {storeOf(someEntries(12)...), ab, storeOf(someEntries(12)...)}, {storeOf(someEntries(12)...), someEntries(5)[4], storeOf(append(slices.Delete(someEntries(12), 4, 5), someEntries(5)[4])...)}, {storeOf(someEntries(12)...), kept("h/p3", 60, "a", "2"), storeOf(someEntries(12)...)},
	} {
		checkStoreIs(t, "PutEntry", impl.PutEntry(x.s, x.e), x.want)
		checkStoreIs(t, "the store that should be", putBy(x.s, x.e), x.want)
	}
}

func TestStoreSize(t *testing.T) {
	parts, long := kept("h/p", 60), kept("h/l", 60)
	parts.Pieces, parts.Length = []impl.Piece{piece(1, "ab"), piece(5, "\xff"), piece(9, "xyz")}, 600
	long.Pieces, long.Length = []impl.Piece{piece(0, pageText(600))}, 600
	empty := impl.Entry{Pieces: []impl.Piece{piece(3, ""), piece(-9, "ab"), piece(math.MaxInt, "c")}, Length: 5}
	for _, x := range []struct {
		l    []impl.Entry
		want int
	}{{nil, 0}, {[]impl.Entry{{}}, 0}, {someEntries(1), 10}, {someEntries(12), 120}, {someEntries(30), 300}, {[]impl.Entry{parts}, 6}, {[]impl.Entry{parts, kept("h/a", 60), long, parts}, 622}, {[]impl.Entry{empty}, 3}} {
		if got := impl.StoreSize(storeOf(x.l...)); got != x.want {
			t.Errorf("StoreSize(%+v) = %d, want %d", x.l, got, x.want)
		}
	}
}

// An entry that is put is found by the request that it was made for, unless there is a later one that answers it; the store stays a store, and all else in it stays.
func TestAnEntryThatIsPutIsFound(t *testing.T) {
	o := site()
	o.Resources[1].Control, o.Resources[4].Control = "s-maxage=5", "public"
	requests := []impl.Request{}
	for _, target := range []string{"/a", "/l", "/gone", "/none", "/m"} {
		for _, l := range [][]string{nil, {"accept-language", "en"}, {"accept-language", "de, en"}, {"range", "bytes=0-1"}, {"range", "bytes=2-"}, {"authorization", "u"}} {
			requests = append(requests, request("GET", "h", target, l...))
		}
	}
	found, full := 0, 0
	for step := 1; step < len(requests); step++ {
		s := impl.Store{}
		for i := range 60 {
			r, now := requests[i*step%len(requests)], i*37%61
			e, ok := impl.EntryOf(r, impl.FinishAnswer(r, impl.PlainAnswer(o, r, now)), now, now)
			before := s
			s = impl.PutEntry(s, e)
			if want := putBy(before, e); !alike(s, want) || !impl.IsStore(s) {
				t.Fatalf("PutEntry(%+v, %+v) = %+v, want %+v", before, e, s, want)
			}
			if !ok || len(before.Entries) == 12 && !slices.ContainsFunc(before.Entries, func(f impl.Entry) bool { return inPlaceOf(e, f) }) {
				full++
				continue
			}
			at := impl.FindEntry(s, r)
			if at < 0 || at != len(s.Entries)-1 && dateOfEntry(s.Entries[at]) <= dateOfEntry(e) || !impl.Agrees(r, s.Entries[at].Select) {
				t.Fatalf("what is put for %q at %d is found at %d of %d", r, now, at, len(s.Entries))
			}
			found++
		}
	}
	if found < 500 || full < 100 {
		t.Errorf("%d are found, and %d are not put", found, full)
	}
}

func TestStoresShareNoMemory(t *testing.T) {
	type both struct {
		S impl.Store
		E impl.Entry
	}
	ab := kept("h/p1", 60, "a", "1")
	ab.Pieces = []impl.Piece{piece(0, "ab"), piece(5, "f")}
	for _, s := range []impl.Store{{}, storeOf(someEntries(3)...), storeOf(someEntries(12)...), storeOf(someEntries(13)...), storeOf(ab)} {
		for _, e := range []impl.Entry{kept("h/new", 60, "a", "1"), kept("h/p1", 60, "a", "1"), ab, {}, {Key: strings.Repeat("k", 161)}} {
			checkApart(t, "PutEntry", both{s, e}, func(b both) []any { return []any{impl.PutEntry(b.S, b.E)} })
		}
		for _, at := range []int{-1, 0, 2, 99} {
			checkApart(t, "DropEntry", s, func(s impl.Store) []any { return []any{impl.DropEntry(s, at)} })
		}
		checkApart(t, "DropKey", s, func(s impl.Store) []any { return []any{impl.DropKey(s, "h/p1"), impl.DropKey(s, "x")} })
		checkApart(t, "IsStore, FindEntry and StoreSize", s, func(s impl.Store) []any {
			return []any{impl.IsStore(s), impl.FindEntry(s, request("GET", "h", "/p1", "a", "1")), impl.StoreSize(s)}
		})
	}
}
