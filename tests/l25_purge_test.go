package tests

import (
	"math"
	"slices"
	"strings"
	"testing"

	"loop.example/g03012/impl"
)

func purge(seq int, kind int, text string) impl.Purge {
	return impl.Purge{Seq: seq, Kind: kind, Text: text}
}

// somePurges are n purges with the numbers 10, 20 and so on.
func somePurges(n int) []impl.Purge {
	l := []impl.Purge{}
	for i := range n {
		l = append(l, purge(10*(i+1), impl.PurgeName, "k"))
	}
	return l
}

func isPurgeBy(p impl.Purge) bool {
	limits := map[int]int{impl.PurgeAll: 0, impl.PurgeKey: 160, impl.PurgeName: 160}
	limit, known := limits[p.Kind]
	return known && len(p.Text) <= limit && p.Seq > 0 && p.Seq <= 1000000000000
}

func arePurgesBy(l []impl.Purge) bool {
	bad := slices.ContainsFunc(l, func(p impl.Purge) bool { return !isPurgeBy(p) })
	seqs := []int{}
	for _, p := range l {
		seqs = append(seqs, p.Seq)
	}
	return !bad && len(l) <= 20 && slices.IsSorted(seqs) && len(slices.Compact(seqs)) == len(l)
}

// addedPurgeBy puts the purge at the end and sorts.
func addedPurgeBy(l []impl.Purge, p impl.Purge) ([]impl.Purge, bool) {
	all := append(slices.Clone(l), p)
	slices.SortStableFunc(all, func(a impl.Purge, b impl.Purge) int {
		if a.Seq < b.Seq {
			return -1
		}
		return 1
	})
	if !arePurgesBy(l) || !arePurgesBy(all) {
		return l, false
	}
	return all, true
}

// hitBy tells whether one of the purges hits an answer.
func hitBy(l []impl.Purge, key string, fields []impl.Field, stamp int) bool {
	value, _ := valuesBy(fields, "surrogate-key")
	for _, p := range l {
		byKind := p.Kind == 1 || p.Kind == 2 && p.Text == key || p.Kind == 3 && !strings.Contains(p.Text, " ") && strings.Contains(" "+value+" ", " "+p.Text+" ")
		if byKind && p.Seq > stamp {
			return true
		}
	}
	return false
}

func TestLimitsOfPurges(t *testing.T) {
	if impl.MaxPurges != 20 || impl.PurgeAll != 1 || impl.PurgeKey != 2 || impl.PurgeName != 3 {
		t.Error(impl.MaxPurges, impl.PurgeAll, impl.PurgeKey, impl.PurgeName)
	}
}

func TestIsPurge(t *testing.T) {
	long := strings.Repeat("t", 160)
	for _, kind := range []int{math.MinInt, -1, 0, 1, 2, 3, 4, 5, 99, math.MaxInt} {
		for seq, good := range map[int]bool{math.MinInt: false, -1: false, 0: false, 1: true, 2: true, impl.MaxValue - 1: true, impl.MaxValue: true, impl.MaxValue + 1: false, math.MaxInt: false} {
			for text, kinds := range map[string]string{"": "123", "x": "23", " ": "23", "h/a?b c": "23", "\xff\x00": "23", long: "23", long + "t": "", long + long: ""} {
				want := good && 1 <= kind && kind <= 3 && strings.Contains(kinds, string(rune('0'+kind)))
				p := purge(seq, kind, text)
				if got := impl.IsPurge(p); got != want || isPurgeBy(p) != want {
					t.Errorf("IsPurge(%+v) = %v, want %v", p, got, want)
				}
			}
		}
	}
}

func TestArePurges(t *testing.T) {
	for n := range 25 {
		l := somePurges(n)
		if got := impl.ArePurges(l); got != (n <= 20) {
			t.Errorf("ArePurges of %d = %v", n, got)
		}
		// One that is not valid, or not in order, at each place.
		for i := range n {
			for _, p := range []impl.Purge{purge(10*(i+1), 0, ""), purge(10*(i+1), impl.PurgeAll, "x"), purge(0, impl.PurgeAll, ""), purge(10*i, impl.PurgeAll, ""), purge(10*i+1, impl.PurgeAll, ""), purge(10*(i+2), impl.PurgeAll, ""), purge(10*(i+2)-1, impl.PurgeAll, ""), purge(impl.MaxValue, impl.PurgeKey, ""), purge(impl.MaxValue+1, impl.PurgeKey, "")} {
				l := somePurges(n)
				l[i] = p
				if got := impl.ArePurges(l); got != arePurgesBy(l) {
					t.Errorf("ArePurges(%+v) = %v", l, got)
				}
			}
		}
	}
	if impl.ArePurges([]impl.Purge{purge(5, 1, ""), purge(5, 1, "")}) || !impl.ArePurges([]impl.Purge{purge(5, 1, ""), purge(6, 1, "")}) || impl.ArePurges([]impl.Purge{purge(6, 1, ""), purge(5, 1, "")}) {
		t.Error("the order of two")
	}
}

func checkAddedPurge(t *testing.T, l []impl.Purge, p impl.Purge, want []impl.Purge, wantOK bool) {
	t.Helper()
	if got, ok := impl.AddPurge(l, p); !slices.Equal(got, want) || ok != wantOK {
		t.Errorf("AddPurge(%+v, %+v) = %+v, %v, want %+v, %v", l, p, got, ok, want, wantOK)
	}
	if by, ok := addedPurgeBy(l, p); !slices.Equal(by, want) || ok != wantOK {
		t.Errorf("%+v, %+v should give %+v, %v, want %+v, %v", l, p, by, ok, want, wantOK)
	}
}

func TestAddPurge(t *testing.T) {
	a, b, c := purge(3, impl.PurgeAll, ""), purge(5, impl.PurgeKey, "h/a"), purge(impl.MaxValue, impl.PurgeName, "k")
	checkAddedPurge(t, nil, a, []impl.Purge{a}, true)
	checkAddedPurge(t, []impl.Purge{a}, b, []impl.Purge{a, b}, true)
	checkAddedPurge(t, []impl.Purge{b}, a, []impl.Purge{a, b}, true)
	checkAddedPurge(t, []impl.Purge{a, c}, b, []impl.Purge{a, b, c}, true)
	checkAddedPurge(t, []impl.Purge{a, b}, c, []impl.Purge{a, b, c}, true)
	// The same one again, and another with this number.
	checkAddedPurge(t, []impl.Purge{a, b, c}, a, []impl.Purge{a, b, c}, false)
	checkAddedPurge(t, []impl.Purge{a, b, c}, c, []impl.Purge{a, b, c}, false)
	checkAddedPurge(t, []impl.Purge{a, b}, purge(5, impl.PurgeName, "h/a"), []impl.Purge{a, b}, false)
	// What is not valid: the purge, the list, a list in another order.
	for _, p := range []impl.Purge{{}, purge(0, impl.PurgeAll, ""), purge(-3, impl.PurgeAll, ""), purge(4, 0, ""), purge(4, 4, ""), purge(4, impl.PurgeAll, "x"), purge(4, impl.PurgeKey, strings.Repeat("t", 161)), purge(impl.MaxValue+1, impl.PurgeAll, "")} {
		checkAddedPurge(t, nil, p, nil, false)
		checkAddedPurge(t, []impl.Purge{a, b}, p, []impl.Purge{a, b}, false)
		checkAddedPurge(t, []impl.Purge{p}, b, []impl.Purge{p}, false)
	}
	checkAddedPurge(t, []impl.Purge{b, a}, purge(4, impl.PurgeAll, ""), []impl.Purge{b, a}, false)
	checkAddedPurge(t, []impl.Purge{b, a}, c, []impl.Purge{b, a}, false)
	checkAddedPurge(t, []impl.Purge{a, a}, c, []impl.Purge{a, a}, false)
	// At each place of lists of each length.
	for n := range 25 {
		for seq := range 10*n + 12 {
			l := somePurges(n)
			want, wantOK := addedPurgeBy(l, purge(seq, impl.PurgeAll, ""))
			if wantOK != (n <= 19 && (seq%10 != 0 || seq > 10*n)) {
				t.Fatalf("%d in %d purges should give %v", seq, n, wantOK)
			}
			checkAddedPurge(t, l, purge(seq, impl.PurgeAll, ""), want, wantOK)
		}
	}
}

// answered is an entry with this key, these names and this stamp.
func answered(key string, stamp int, fields ...string) impl.Entry {
	e := lettersEntry()
	e.Key, e.Seq = key, stamp
	e.Head.Fields = append(e.Head.Fields[:5:5], pairs(fields...)...)
	return e
}

func checkHits(t *testing.T, l []impl.Purge, e impl.Entry, want bool) {
	t.Helper()
	if got := impl.HitsEntry(l, e); got != want {
		t.Errorf("HitsEntry(%+v, %+v) = %v", l, e, got)
	}
	if by := hitBy(l, e.Key, e.Head.Fields, e.Seq); by != want {
		t.Errorf("%+v, %+v should give %v, want %v", l, e, by, want)
	}
	s := storeOf(kept("other", 60), e)
	s.Entries[0].Seq = math.MaxInt
	left := impl.ApplyPurges(s, l)
	if wantLeft := 2; want && len(left.Entries) != 1 || !want && len(left.Entries) != wantLeft {
		t.Errorf("ApplyPurges(%+v, %+v) leaves %+v", s, l, left)
	}
}

func TestHitsEntryByStampAndKind(t *testing.T) {
	e := answered("h/a", 7, "surrogate-key", "k1 k2")
	for seq := range 16 {
		for _, p := range []impl.Purge{purge(seq, 1, ""), purge(seq, 2, "h/a"), purge(seq, 3, "k1"), purge(seq, 3, "k2"), purge(seq, 1, "x")} {
			checkHits(t, []impl.Purge{p}, e, seq > 7)
			checkHits(t, []impl.Purge{purge(20, 2, "x"), p, purge(30, 3, "x")}, e, seq > 7)
			checkHits(t, []impl.Purge{p, p}, e, seq > 7)
		}
		for _, p := range []impl.Purge{purge(seq, 2, "h/b"), purge(seq, 2, ""), purge(seq, 2, "k1"), purge(seq, 3, "h/a"), purge(seq, 0, ""), purge(seq, 4, "h/a"), purge(seq, -1, "k1"), purge(seq, 0, "h/a")} {
			checkHits(t, []impl.Purge{p}, e, false)
		}
	}
	checkHits(t, nil, e, false)
	// Stamps and numbers at both ends.
	checkHits(t, []impl.Purge{purge(impl.MaxValue, 1, "")}, answered("k", impl.MaxValue), false)
	checkHits(t, []impl.Purge{purge(impl.MaxValue, 1, "")}, answered("k", impl.MaxValue-1), true)
	checkHits(t, []impl.Purge{purge(1, 1, "")}, answered("k", 0), true)
	checkHits(t, []impl.Purge{purge(math.MaxInt, 1, "")}, answered("k", math.MinInt), true)
	checkHits(t, []impl.Purge{purge(math.MinInt, 1, "")}, answered("k", math.MaxInt), false)
	// Purges in any order, of which one hits.
	checkHits(t, []impl.Purge{purge(9, 3, "x"), purge(8, 2, "h/a"), purge(3, 1, "")}, e, true)
	checkHits(t, []impl.Purge{purge(3, 1, ""), purge(9, 3, "x"), purge(8, 2, "h/a")}, e, true)
}

func TestHitsEntryByNames(t *testing.T) {
	for _, x := range []struct {
		fields []string
		names  string
		others string
	}{
		// Names at both ends and in between, and what is only a part of one.
		{[]string{"surrogate-key", "k1"}, "k1", "k,1,,K1,k11,k1 "}, {[]string{"surrogate-key", "k1 k2 k3"}, "k1,k2,k3", "k,k1 k2,,k2 k3,k1 k2 k3"}, {[]string{"a", "k0", "surrogate-key", "abc", "b", "k9"}, "abc", "a,ab,bc,c,abcd,k0,k9"},
		// Several spaces have empty names between them.
		{[]string{"surrogate-key", "k1  k2"}, "k1,k2,", "k1  k2, "}, {[]string{"surrogate-key", " k1"}, "k1,", " ,k"}, {[]string{"surrogate-key", "k1 "}, "k1,", " ,k"}, {[]string{"surrogate-key", " "}, "", " "}, {[]string{"surrogate-key", "k1\tk2"}, "k1\tk2", "k1,k2,"},
		// An empty field, or none.
		{[]string{"surrogate-key", ""}, "", " ,k"}, {nil, "", " ,k"}, {[]string{"Surrogate-Key", "k1", "surrogate-keys", "k2", "surrogate", "k3"}, "", "k1,k2,k3"},
		// Fields that stand several times.
		{[]string{"surrogate-key", "k1 k2", "surrogate-key", "k3"}, "k1,k3", "k2,k2, k3,"}, {[]string{"surrogate-key", "", "surrogate-key", "k3"}, "k3", ""},
	} {
		for _, seq := range []int{2, 3} {
			for _, name := range strings.Split(x.names, ",") {
				checkHits(t, []impl.Purge{purge(seq, 3, name)}, answered("h/a", 2, x.fields...), seq == 3)
			}
			for _, name := range strings.Split(x.others, ",") {
				if !slices.Contains(strings.Split(x.names, ","), name) {
					checkHits(t, []impl.Purge{purge(seq, 3, name)}, answered("h/a", 2, x.fields...), false)
				}
			}
		}
	}
	// The comma that joins two fields belongs to the name in front of it.
	checkHits(t, []impl.Purge{purge(3, 3, "k2,")}, answered("h/a", 2, "surrogate-key", "k1 k2", "surrogate-key", "k3"), true)
}

func TestHitsAnswer(t *testing.T) {
	r := request("GET", "h", "/x/../a?c&b")
	for _, x := range []struct {
		l    []impl.Purge
		r    impl.Request
		x    impl.Response
		want bool
	}{
		{nil, r, answer(200, ""), false}, {[]impl.Purge{purge(1, 1, "")}, r, answer(200, ""), true}, {[]impl.Purge{purge(1, 1, "")}, impl.Request{}, impl.Response{}, true},
		// The stamp of the answer.
		{[]impl.Purge{purge(3, 1, "")}, r, answer(200, "", "x-purge", "2"), true}, {[]impl.Purge{purge(3, 1, "")}, r, answer(200, "", "x-purge", "3"), false}, {[]impl.Purge{purge(3, 1, "")}, r, answer(200, "", "x-purge", "4"), false}, {[]impl.Purge{purge(3, 1, "")}, r, answer(200, "", "x-purge", "04"), true}, {[]impl.Purge{purge(3, 1, "")}, r, answer(200, "", "x-purge", "4", "x-purge", "4"), true},
		// The key of the request, the empty one if it has none.
		{[]impl.Purge{purge(3, 2, "h/a?b&c")}, r, answer(200, ""), true}, {[]impl.Purge{purge(3, 2, "h/a?b&c")}, request("POST", "h", "/a?b&c"), answer(405, ""), true}, {[]impl.Purge{purge(3, 2, "h/a?c&b")}, r, answer(200, ""), false}, {[]impl.Purge{purge(3, 2, "h/x/../a?c&b")}, r, answer(200, ""), false}, {[]impl.Purge{purge(3, 2, "")}, r, answer(200, ""), false}, {[]impl.Purge{purge(3, 2, "")}, request("GET", "h", "/%"), answer(400, ""), true}, {[]impl.Purge{purge(3, 2, "")}, request("get", "h", "/"), answer(400, ""), true}, {[]impl.Purge{purge(3, 2, "h/%")}, request("GET", "h", "/%"), answer(400, ""), false}, {[]impl.Purge{purge(3, 2, "h/")}, request("GET", "h", "/", "A", "b"), answer(400, ""), false},
		// The names of the answer.
		{[]impl.Purge{purge(3, 3, "k")}, r, answer(200, "", "surrogate-key", "a k b", "x-purge", "2"), true}, {[]impl.Purge{purge(3, 3, "k")}, r, answer(200, "", "surrogate-key", "a k b", "x-purge", "3"), false}, {[]impl.Purge{purge(3, 3, "k")}, request("GET", "h", "/", "surrogate-key", "k"), answer(200, "k"), false}, {[]impl.Purge{purge(3, 3, "")}, r, answer(200, ""), true}, {[]impl.Purge{purge(3, 3, "")}, r, answer(200, "", "surrogate-key", "k"), false},
		// Several, in any order.
		{[]impl.Purge{purge(9, 3, "x"), purge(1, 1, ""), purge(8, 2, "h/a?b&c")}, r, answer(200, "", "x-purge", "7"), true}, {[]impl.Purge{purge(9, 3, "x"), purge(1, 1, ""), purge(8, 2, "h/a?b&c")}, r, answer(200, "", "x-purge", "8"), false},
	} {
		if got := impl.HitsAnswer(x.l, x.r, x.x); got != x.want {
			t.Errorf("HitsAnswer(%+v, %q, %#v) = %v", x.l, x.r, x.x, got)
		}
	}
}

// shelf is a store with entries of different keys, names and stamps.
func shelf() impl.Store {
	return storeOf(answered("h/a", 0, "surrogate-key", "k1 k2"), answered("h/b", 2), answered("h/c", 4, "surrogate-key", "k2"), answered("h/a", 5, "surrogate-key", "k1", "vary", "x"), answered("h/d", 9, "surrogate-key", "k3"))
}

func TestApplyPurges(t *testing.T) {
	for _, x := range []struct {
		l    []impl.Purge
		left []int
	}{
		{nil, []int{0, 1, 2, 3, 4}}, {[]impl.Purge{purge(3, 1, "")}, []int{2, 3, 4}}, {[]impl.Purge{purge(10, 1, "")}, nil}, {[]impl.Purge{purge(9, 1, "")}, []int{4}}, {[]impl.Purge{purge(1, 2, "h/a")}, []int{1, 2, 3, 4}}, {[]impl.Purge{purge(6, 2, "h/a")}, []int{1, 2, 4}}, {[]impl.Purge{purge(5, 3, "k2")}, []int{1, 3, 4}}, {[]impl.Purge{purge(6, 3, "")}, []int{0, 2, 3, 4}},
		// Several, so that places change between them.
		{[]impl.Purge{purge(1, 2, "h/a"), purge(3, 2, "h/b"), purge(10, 3, "k3")}, []int{2, 3}}, {[]impl.Purge{purge(10, 3, "k3"), purge(3, 2, "h/b"), purge(1, 2, "h/a")}, []int{2, 3}}, {[]impl.Purge{purge(3, 1, ""), purge(5, 3, "k2"), purge(6, 3, "k1")}, []int{4}}, {[]impl.Purge{purge(2, 3, "k1"), purge(2, 3, "k2"), purge(2, 1, "")}, []int{1, 2, 3, 4}}, {[]impl.Purge{purge(10, 1, ""), purge(10, 1, "")}, nil}, {[]impl.Purge{purge(0, 0, ""), purge(99, 7, "h/a")}, []int{0, 1, 2, 3, 4}},
	} {
		want := storeOf()
		for _, i := range x.left {
			want.Entries = append(want.Entries, shelf().Entries[i])
		}
		checkStoreIs(t, "ApplyPurges", impl.ApplyPurges(shelf(), x.l), want)
		checkStoreIs(t, "ApplyPurges of no entries", impl.ApplyPurges(impl.Store{}, x.l), impl.Store{})
	}
	// Stores that are none.
	twins := storeOf(answered("h/a", 0), answered("h/a", 0), impl.Entry{})
	checkStoreIs(t, "ApplyPurges of twins", impl.ApplyPurges(twins, []impl.Purge{purge(1, 2, "h/a")}), storeOf(impl.Entry{}))
	checkStoreIs(t, "ApplyPurges of too many", impl.ApplyPurges(storeOf(append(someEntries(20), answered("x", 9))...), []impl.Purge{purge(5, 1, "")}), storeOf(answered("x", 9)))
}

// permuted calls f with all orders of a list.
func permuted[T any](l []T, f func([]T)) {
	if len(l) < 2 {
		f(l)
		return
	}
	for i := range l {
		rest := slices.Delete(slices.Clone(l), i, i+1)
		permuted(rest, func(p []T) { f(append([]T{l[i]}, p...)) })
	}
}

// Purges may come in any order and twice: what is known of them in the end, and what is left of a store, is always the same.
func TestPurgesMayComeInAnyOrderAndTwice(t *testing.T) {
	sets := [][]impl.Purge{{purge(1, 2, "h/a"), purge(3, 1, ""), purge(5, 3, "k2"), purge(6, 3, "k1")}, {purge(1, 1, ""), purge(2, 1, ""), purge(3, 1, ""), purge(4, 2, "h/b"), purge(5, 3, "")}, {purge(10, 3, "k3"), purge(11, 2, "h/c"), purge(12, 3, "nobody")}}
	for _, set := range sets {
		want := storeOf()
		for _, e := range shelf().Entries {
			if !hitBy(set, e.Key, e.Head.Fields, e.Seq) {
				want.Entries = append(want.Entries, e)
			}
		}
		permuted(set, func(order []impl.Purge) {
			for again := range len(order) + 1 {
				// The one at this place comes again at the end, if there is one.
				come := append(slices.Clone(order), order[min(again, len(order)-1)])
				known, s := []impl.Purge{}, shelf()
				for i, p := range come {
					l, ok := impl.AddPurge(known, p)
					if ok != (i < len(order)) {
						t.Fatalf("AddPurge(%+v, %+v) = %v", known, p, ok)
					}
					known, s = l, impl.ApplyPurges(s, l)
				}
				if !slices.Equal(known, set) || !alike(s, want) {
					t.Fatalf("%+v leave %+v and %+v, want %+v", come, known, s, want)
				}
			}
			checkStoreIs(t, "ApplyPurges in another order", impl.ApplyPurges(shelf(), order), want)
			checkStoreIs(t, "ApplyPurges twice", impl.ApplyPurges(shelf(), append(slices.Clone(order), order...)), want)
		})
	}
}

func TestPurgesShareNoMemory(t *testing.T) {
	type both struct {
		S impl.Store
		L []impl.Purge
	}
	for _, l := range [][]impl.Purge{nil, somePurges(3), somePurges(20), {purge(3, 1, ""), purge(5, 3, "k2")}, {purge(99, 1, "")}} {
		for _, p := range []impl.Purge{purge(15, 1, ""), purge(10, 1, ""), purge(99, 2, "x"), {}} {
			checkNewMemory(t, "AddPurge", l, purge(77, 1, ""), func(l []impl.Purge) []impl.Purge {
				all, _ := impl.AddPurge(l, p)
				return all
			})
		}
		checkApart(t, "ApplyPurges", both{shelf(), l}, func(b both) []any {
			return []any{impl.ApplyPurges(b.S, b.L), impl.ArePurges(b.L), impl.HitsEntry(b.L, b.S.Entries[0])}
		})
		checkApart(t, "HitsAnswer", []any{l, request("GET", "h", "/a"), answer(200, "", "surrogate-key", "k", "x-purge", "2")}, func(a []any) []any {
			return []any{impl.HitsAnswer(a[0].([]impl.Purge), a[1].(impl.Request), a[2].(impl.Response))}
		})
	}
}
