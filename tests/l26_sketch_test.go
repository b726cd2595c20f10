package tests

import (
	"math"
	"slices"
	"strconv"
	"strings"
	"testing"

	"loop.example/g03012/impl"
)

// placesBy returns the indices of the counts of a key.
func placesBy(key string) []int {
	places := []int{}
	for row := range 4 {
		l := []int{row}
		for _, b := range []byte(key) {
			l = append(l, int(b))
		}
		places = append(places, 16*row+digestOf(l)%16)
	}
	return places
}

func isSketchBy(s impl.Sketch) bool {
	if len(s.Counts) > 0 && (slices.Min(s.Counts) < 0 || slices.Max(s.Counts) > 64) {
		return false
	}
	return len(s.Counts)%64 == 0 && len(s.Counts) <= 64 && 0 <= s.Total && s.Total < 64
}

func touchedBy(s impl.Sketch, key string) impl.Sketch {
	if !isSketchBy(s) {
		return s
	}
	counts := append(slices.Clone(s.Counts), make([]int, 64-len(s.Counts))...)
	for _, i := range placesBy(key) {
		counts[i]++
	}
	if s.Total < 63 {
		return impl.Sketch{Counts: counts, Total: s.Total + 1}
	}
	for i, n := range counts {
		counts[i] = (n - n%2) / 2
	}
	return impl.Sketch{Counts: counts, Total: 32}
}

func estimateBy(s impl.Sketch, key string) int {
	if !isSketchBy(s) || len(s.Counts) == 0 {
		return 0
	}
	l := []int{}
	for _, i := range placesBy(key) {
		l = append(l, s.Counts[i])
	}
	return slices.Min(l)
}

// evictedBy sorts the entries by what their keys are worth, and keeps as many from the end as have room.
func evictedBy(s impl.Store, k impl.Sketch, room int) impl.Store {
	order := []int{}
	for i := range s.Entries {
		order = append(order, i)
	}
	slices.SortStableFunc(order, func(i int, j int) int {
		return estimateBy(k, s.Entries[i].Key) - estimateBy(k, s.Entries[j].Key)
	})
	size := impl.StoreSize(s)
	for size > room && len(order) > 0 {
		size -= impl.StoreSize(storeOf(s.Entries[order[0]]))
		order = order[1:]
	}
	slices.Sort(order)
	left := storeOf()
	for _, i := range order {
		left.Entries = append(left.Entries, s.Entries[i])
	}
	return left
}

// counted is a sketch in which all counts are the same.
func counted(n int, total int) impl.Sketch {
	return impl.Sketch{Counts: slices.Repeat([]int{n}, 64), Total: total}
}

// touchedOften is a sketch that was touched for each key so many times.
func touchedOften(times map[string]int) impl.Sketch {
	s := impl.Sketch{}
	for key, n := range times {
		for range n {
			s = impl.TouchKey(s, key)
		}
	}
	return s
}

func TestLimitsOfSketches(t *testing.T) {
	if impl.Rows != 4 || impl.Width != 16 || impl.Turn != 64 {
		t.Error(impl.Rows, impl.Width, impl.Turn)
	}
}

func TestIsSketch(t *testing.T) {
	for n := range 140 {
		for total, want := range map[int]bool{math.MinInt: false, -1: false, 0: true, 1: true, 62: true, 63: true, 64: false, 65: false, math.MaxInt: false} {
			s := impl.Sketch{Counts: make([]int, n), Total: total}
			if got := impl.IsSketch(s); got != (want && (n == 0 || n == 64)) {
				t.Errorf("IsSketch of %d counts and the total %d = %v", n, total, got)
			}
		}
	}
	for i := range 64 {
		for count, want := range map[int]bool{math.MinInt: false, -1: false, 0: true, 1: true, 63: true, 64: true, 65: false, math.MaxInt: false} {
			s := counted(7, 3)
			s.Counts[i] = count
			if got := impl.IsSketch(s); got != want {
				t.Errorf("IsSketch with the count %d at %d = %v", count, i, got)
			}
		}
	}
}

// someKeys are keys of all kinds: an empty one, and bytes of which the sign could matter.
var someKeys = []string{"", "h/a", "h/b", "h/a?b&c", "h/l", "\xff\x80", "\x00", "a", "b", "ä", strings.Repeat("k", 160)}

func checkTouched(t *testing.T, s impl.Sketch, key string, want impl.Sketch) {
	t.Helper()
	if got := impl.TouchKey(s, key); !alike(got, want) {
		t.Errorf("TouchKey(%v, %q) = %v, want %v", s, key, got, want)
	}
	if by := touchedBy(s, key); !alike(by, want) {
		t.Errorf("%v, %q should give %v, want %v", s, key, by, want)
	}
	if got, want := impl.EstimateKey(s, key), estimateBy(s, key); got != want {
		t.Errorf("EstimateKey(%v, %q) = %d, want %d", s, key, got, want)
	}
}

func TestTouchKey(t *testing.T) {
	for _, key := range someKeys {
		one := impl.Sketch{Counts: make([]int, 64), Total: 1}
		for _, i := range placesBy(key) {
			one.Counts[i] = 1
		}
		checkTouched(t, impl.Sketch{}, key, one)
		checkTouched(t, counted(0, 0), key, one)
		// Counts and totals at both ends: a count may go beyond Turn, as nothing says that it does not.
		for _, n := range []int{0, 1, 6, 7, 62, 63, 64} {
			for _, total := range []int{0, 1, 31, 61, 62} {
				more := counted(n, total+1)
				for _, i := range placesBy(key) {
					more.Counts[i]++
				}
				checkTouched(t, counted(n, total), key, more)
			}
			// Halved, rounded down: counts that are odd, and those that are odd only with the key's touch.
			half := counted(n/2, 32)
			for _, i := range placesBy(key) {
				half.Counts[i] = (n + 1) / 2
			}
			checkTouched(t, counted(n, 63), key, half)
		}
		half := counted(0, 32)
		checkTouched(t, impl.Sketch{Total: 63}, key, half)
		// What is no sketch.
		for _, s := range []impl.Sketch{{Total: 64}, {Total: -1}, {Counts: make([]int, 63)}, {Counts: make([]int, 65)}, {Counts: make([]int, 1), Total: 63}, counted(65, 0), counted(-1, 0), counted(3, 64), counted(3, math.MaxInt), counted(math.MaxInt, 5)} {
			checkTouched(t, s, key, s)
		}
	}
}

func TestTouchKeyAgainstAnotherWay(t *testing.T) {
	s := impl.Sketch{}
	for i := range 1000 {
		key := "h/" + strconv.Itoa(i*i%23)
		want := touchedBy(s, key)
		checkTouched(t, s, key, want)
		s = want
		if !impl.IsSketch(s) {
			t.Fatalf("%v is no sketch", s)
		}
	}
}

func TestEstimateKey(t *testing.T) {
	for _, key := range someKeys {
		for _, s := range []impl.Sketch{{}, {Total: 5}, {Total: 64}, {Counts: slices.Repeat([]int{9}, 63)}, {Counts: slices.Repeat([]int{9}, 128)}, counted(65, 5), counted(9, -1), counted(9, 64)} {
			if got := impl.EstimateKey(s, key); got != 0 {
				t.Errorf("EstimateKey(%v, %q) = %d", s, key, got)
			}
		}
		for _, n := range []int{0, 1, 63, 64} {
			if got := impl.EstimateKey(counted(n, 0), key); got != n {
				t.Errorf("EstimateKey of counts that are %d = %d", n, got)
			}
		}
		// The least one, in each of the rows; counts of other keys do not matter.
		for low, i := range placesBy(key) {
			s := counted(9, 0)
			s.Counts[i] = low
			for j := range s.Counts {
				if !slices.Contains(placesBy(key), j) {
					s.Counts[j] = 0
				}
			}
			if got := impl.EstimateKey(s, key); got != low {
				t.Errorf("EstimateKey of %q with %d at %d = %d", key, low, i, got)
			}
		}
	}
}

// sharing returns two keys that share their counts in so many rows.
func sharing(rows int) (string, string) {
	seen := [][]int{}
	for i := 0; ; i++ {
		places := placesBy("h/" + strconv.Itoa(i))
		for j, other := range seen {
			same := 0
			for row, place := range places {
				if place == other[row] {
					same++
				}
			}
			if same == rows {
				return "h/" + strconv.Itoa(j), "h/" + strconv.Itoa(i)
			}
		}
		seen = append(seen, places)
	}
}

func TestKeysThatShareACount(t *testing.T) {
	for rows, most := range []int{5, 7, 7, 7, 7} {
		a, b := sharing(rows)
		s := touchedOften(map[string]int{a: 5, b: 2})
		wantA, wantB := 5, 2
		if rows == 4 {
			wantA, wantB = 7, 7
		}
		if impl.EstimateKey(s, a) != wantA || impl.EstimateKey(s, b) != wantB || slices.Max(s.Counts) != most {
			t.Errorf("%q and %q share %d counts: %d, %d", a, b, rows, impl.EstimateKey(s, a), impl.EstimateKey(s, b))
		}
	}
}

func TestEvictEntries(t *testing.T) {
	a, b, c, d := kept("h/a", 60), kept("h/b", 60), kept("h/c", 60), kept("h/d", 60)
	b.Pieces = []impl.Piece{piece(0, "abc"), piece(5, "f")}
	empty := kept("h/e", 60)
	empty.Pieces = nil
	k := touchedOften(map[string]int{"h/a": 3, "h/b": 1, "h/c": 2, "h/d": 3})
	for _, x := range []struct {
		s    impl.Store
		k    impl.Sketch
		room int
		want impl.Store
	}{
		// Room that is just enough, one too small, 0, negative.
		{storeOf(a, b, c, d), k, 34, storeOf(a, b, c, d)}, {storeOf(a, b, c, d), k, 33, storeOf(a, c, d)}, {storeOf(a, b, c, d), k, 30, storeOf(a, c, d)}, {storeOf(a, b, c, d), k, 29, storeOf(a, d)}, {storeOf(a, b, c, d), k, 19, storeOf(d)}, {storeOf(a, b, c, d), k, 9, storeOf()}, {storeOf(a, b, c, d), k, 0, storeOf()}, {storeOf(a, b, c, d), k, -1, storeOf()}, {storeOf(a, b, c, d), k, math.MinInt, storeOf()}, {storeOf(a, b, c, d), k, math.MaxInt, storeOf(a, b, c, d)},
		// Nothing to drop, and what has no bytes.
		{storeOf(), k, 0, storeOf()}, {storeOf(), k, -1, storeOf()}, {storeOf(empty), k, 0, storeOf(empty)}, {storeOf(empty), k, -1, storeOf()}, {storeOf(a, empty), k, 5, storeOf()}, {storeOf(empty, a), k, 10, storeOf(empty, a)}, {storeOf(empty, a), k, 9, storeOf()},
		// The first one of those that are worth the same.
		{storeOf(d, a, b), k, 15, storeOf(a)}, {storeOf(a, d, b), k, 15, storeOf(d)}, {storeOf(a, d, c), impl.Sketch{}, 10, storeOf(c)}, {storeOf(c, a, d), impl.Sketch{}, 25, storeOf(a, d)}, {storeOf(a, b, c, d), impl.Sketch{Total: 64}, 20, storeOf(c, d)}, {storeOf(a, b, c, d), counted(65, 3), 20, storeOf(c, d)},
	} {
		checkStoreIs(t, "EvictEntries to "+strconv.Itoa(x.room), impl.EvictEntries(x.s, x.k, x.room), x.want)
		checkStoreIs(t, "what should be left of "+strconv.Itoa(x.room), evictedBy(x.s, x.k, x.room), x.want)
	}
	// Several entries with the same key, and stores that are none.
	twins := storeOf(a, c, kept("h/c", 70, "x", "1"), impl.Entry{Key: "h/b", Pieces: []impl.Piece{piece(-5, "xyz")}}, a)
	for room := range 50 {
		checkStoreIs(t, "EvictEntries of twins", impl.EvictEntries(twins, k, room), evictedBy(twins, k, room))
		many := storeOf(someEntries(30)...)
		checkStoreIs(t, "EvictEntries of many", impl.EvictEntries(many, k, 10*room), evictedBy(many, k, 10*room))
	}
}

// What is asked for often is kept: with each room, what goes was asked for no more than what stays, and nothing goes that has room.
func TestWhatIsAskedForOftenIsKept(t *testing.T) {
	s := storeOf(someEntries(12)...)
	for i := range s.Entries {
		s.Entries[i].Pieces = []impl.Piece{piece(0, "abcdefghij"[:i*7%11])}
	}
	k := impl.Sketch{}
	for round := range 150 {
		// Some are asked for in each round, others ever more seldom.
		for i, e := range s.Entries {
			if round%(i+1) == 0 {
				k = impl.TouchKey(k, e.Key)
			}
		}
		for room := -1; room < 70 && round%10 == 0; room += 6 {
			left := impl.EvictEntries(s, k, room)
			checkStoreIs(t, "EvictEntries", left, evictedBy(s, k, room))
			most := 0
			gone := slices.DeleteFunc(slices.Clone(s.Entries), func(e impl.Entry) bool {
				return slices.ContainsFunc(left.Entries, func(f impl.Entry) bool { return f.Key == e.Key })
			})
			for _, e := range gone {
				most = max(most, impl.EstimateKey(k, e.Key))
			}
			for _, e := range left.Entries {
				if impl.EstimateKey(k, e.Key) < most {
					t.Fatalf("%q stays, which is asked for %d times, and one goes that was asked for %d times", e.Key, impl.EstimateKey(k, e.Key), most)
				}
			}
			if impl.StoreSize(left) > room && len(left.Entries) > 0 {
				t.Fatalf("%d bytes are left in the room %d", impl.StoreSize(left), room)
			}
		}
	}
	if impl.EstimateKey(k, "h/p0") < 10 {
		t.Errorf("what is asked for most often has the estimate %d", impl.EstimateKey(k, "h/p0"))
	}
}

// An estimate is never less than how often the key was asked for, as long as nothing is halved, and no more than half of it is lost then.
func TestEstimatesAreNotTooLow(t *testing.T) {
	s, times := impl.Sketch{}, map[string]int{}
	for i := range 400 {
		key := "h/" + strconv.Itoa(i*i*7%31)
		turn := s.Total == 63
		s = impl.TouchKey(s, key)
		times[key]++
		for key, n := range times {
			if turn {
				times[key] = n / 2
			}
			if got := impl.EstimateKey(s, key); got < times[key] || got > s.Total {
				t.Fatalf("EstimateKey of %q = %d, and it was asked for %d times", key, got, times[key])
			}
		}
	}
}

func TestSketchesShareNoMemory(t *testing.T) {
	type both struct {
		S impl.Store
		K impl.Sketch
	}
	for _, k := range []impl.Sketch{{}, counted(3, 5), counted(3, 63), counted(65, 0), {Counts: []int{1, 2}}, touchedOften(map[string]int{"h/p1": 3})} {
		checkApart(t, "TouchKey", k, func(k impl.Sketch) []any {
			return []any{impl.TouchKey(k, "h/a"), impl.EstimateKey(k, "h/a"), impl.IsSketch(k)}
		})
		for _, room := range []int{-1, 0, 15, 99} {
			checkApart(t, "EvictEntries", both{storeOf(someEntries(3)...), k}, func(b both) []any { return []any{impl.EvictEntries(b.S, b.K, room)} })
		}
	}
}
