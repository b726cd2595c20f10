package tests

import (
	"math"
	"slices"
	"strconv"
	"testing"

	"loop.example/g03012/impl"
)

func hop(skew int, wait int, keep int) impl.Hop {
	return impl.Hop{Skew: skew, Wait: wait, Keep: keep}
}

func isHopBy(h impl.Hop) bool {
	for _, x := range [][3]int{{-1000, h.Skew, 1000}, {0, h.Wait, 1000}, {0, h.Keep, 100000}} {
		if !slices.IsSorted(x[:]) {
			return false
		}
	}
	return true
}

// passedBy lets an answer pass one hop, by the true times: what it says of its age grows by the way, and its date tells what the clock of the hop makes of it.
func passedBy(x impl.Response, t int, h impl.Hop) (impl.Response, int) {
	if !isHopBy(h) || t < 0 || t > 2*impl.MaxTime {
		return x, t
	}
	age := ageBy(x) + h.Wait
	value, _ := valuesBy(x.Fields, "date")
	if date, ok := dateOf(value); ok && t+h.Wait+h.Skew-date > age {
		age = t + h.Wait + h.Skew - date
	}
	age = min(min(age, 2147483648)+h.Keep, 2147483648)
	x.Fields = impl.SetField(x.Fields, "age", strconv.Itoa(age))
	return x, t + h.Wait + h.Keep
}

// passed looks whether an answer passes the hops at once as it does one after the other, in another way, and keeps the arguments.
func passed(t *testing.T, x impl.Response, now int, l ...impl.Hop) (impl.Response, int) {
	t.Helper()
	want, wantAt := copied(x), now
	if len(l) <= 8 && !slices.ContainsFunc(l, func(h impl.Hop) bool { return !isHopBy(h) }) {
		for _, h := range l {
			y, at := impl.PassHop(want, wantAt, h)
			want, wantAt = passedBy(want, wantAt, h)
			if !sameAnswer(y, want) || at != wantAt {
				t.Fatalf("PassHop of %+v gives %#v at %d, want %#v at %d", h, y, at, want, wantAt)
			}
		}
	}
	x, l = copied(x), slices.Clone(l)
	before, hops := copied(x), slices.Clone(l)
	got, at := impl.PassHops(x, now, l)
	if !sameAnswer(got, want) || at != wantAt {
		t.Fatalf("PassHops(%#v, %d, %+v) = %#v at %d, want %#v at %d", x, now, l, got, at, want, wantAt)
	}
	if !sameAnswer(x, before) || !slices.Equal(l, hops) {
		t.Fatalf("PassHops changes its arguments to %#v and %+v", x, l)
	}
	return got, at
}

// datedAt is an answer with this date.
func datedAt(date int, fields ...string) impl.Response {
	return answer(200, "b", append([]string{"date", stamp(date)}, fields...)...)
}

func TestLimitsOfHops(t *testing.T) {
	if impl.MaxSkew != 1000 || impl.MaxHops != 8 {
		t.Error(impl.MaxSkew, impl.MaxHops)
	}
}

// edgeHops are hops with each number at both ends of its range and one beyond, and far from it.
func edgeHops() []impl.Hop {
	l := []impl.Hop{}
	for _, skew := range []int{math.MinInt, -1001, -1000, -7, 0, 1, 1000, 1001, math.MaxInt} {
		for _, wait := range []int{math.MinInt, -1, 0, 1, 1000, 1001, math.MaxInt} {
			for _, keep := range []int{math.MinInt, -1, 0, 1, 100000, 100001, math.MaxInt} {
				l = append(l, hop(skew, wait, keep))
			}
		}
	}
	return l
}

func TestIsHop(t *testing.T) {
	good := 0
	for _, h := range edgeHops() {
		want := isHopBy(h)
		if got := impl.IsHop(h); got != want {
			t.Errorf("IsHop(%+v) = %v", h, got)
		}
		for n := range 3 {
			l := slices.Insert(slices.Repeat([]impl.Hop{hop(1, 2, 3)}, 2), n, h)
			if got := impl.AreHops(l); got != want {
				t.Errorf("AreHops(%+v) = %v", l, got)
			}
		}
		if want {
			good++
		}
	}
	if good != 5*3*3 {
		t.Errorf("%d hops are good", good)
	}
	for n := range 12 {
		for _, h := range []impl.Hop{{}, hop(-1000, 1000, 100000)} {
			if got := impl.AreHops(slices.Repeat([]impl.Hop{h}, n)); got != (n <= 8) {
				t.Errorf("AreHops of %d hops = %v", n, got)
			}
		}
	}
}

func TestPassHop(t *testing.T) {
	for _, x := range []struct {
		h       impl.Hop
		date    int
		said    int
		now     int
		age, at int
	}{
		// A clock that is right, ahead and behind.
		{hop(0, 0, 0), 100, 0, 100, 0, 100}, {hop(0, 2, 10), 100, 0, 100, 12, 112}, {hop(50, 2, 10), 100, 0, 100, 62, 112}, {hop(-50, 2, 10), 100, 0, 100, 12, 112}, {hop(1000, 1000, 100000), 100, 0, 100, 102000, 101100}, {hop(-1000, 1000, 100000), 100, 0, 100, 101000, 101100}, {hop(1, 0, 0), 100, 0, 100, 1, 100}, {hop(-1, 0, 0), 100, 0, 100, 0, 100},
		// With an age of its own, which may be greater than what the date tells, or less.
		{hop(0, 2, 10), 100, 7, 100, 19, 112}, {hop(50, 2, 10), 100, 7, 100, 62, 112}, {hop(5, 2, 10), 100, 7, 100, 19, 112}, {hop(7, 2, 10), 100, 7, 100, 19, 112}, {hop(8, 2, 10), 100, 7, 100, 20, 112}, {hop(0, 2, 10), 100, 7, 150, 62, 162}, {hop(-50, 2, 10), 100, 7, 150, 19, 162}, {hop(-40, 2, 10), 100, 7, 150, 22, 162},
		// With a date in the future.
		{hop(0, 2, 10), 500, 0, 100, 12, 112}, {hop(900, 2, 10), 500, 0, 100, 512, 112}, {hop(0, 0, 0), impl.MaxTime, 3, 0, 3, 0},
		// Times and clocks before the first one, and at the last ones.
		{hop(-1000, 5, 5), 0, 0, 0, 10, 10}, {hop(-1000, 5, 5), 0, 0, 2000, 1010, 2010}, {hop(1000, 1000, 100000), impl.MaxTime, 0, 2 * impl.MaxTime, impl.Forever, 2*impl.MaxTime + 101000}, {hop(0, 1, 1), impl.MaxTime, 0, impl.MaxTime, 2, impl.MaxTime + 2},
		// Ages near the greatest one.
		{hop(0, 1, 1), 100, impl.Forever - 3, 100, impl.Forever - 1, 102}, {hop(0, 1, 1), 100, impl.Forever - 2, 100, impl.Forever, 102}, {hop(0, 1, 1), 100, impl.Forever - 1, 100, impl.Forever, 102}, {hop(0, 0, 0), 100, impl.Forever, 100, impl.Forever, 100}, {hop(0, 0, 1), 100, impl.Forever, 100, impl.Forever, 101}, {hop(0, 0, 0), 0, 0, impl.Forever - 1, impl.Forever - 1, impl.Forever - 1}, {hop(0, 0, 0), 0, 0, impl.Forever + 1, impl.Forever, impl.Forever + 1},
	} {
		y := datedAt(x.date, "age", strconv.Itoa(x.said), "etag", `"v"`)
		got, at := impl.PassHop(y, x.now, x.h)
		want := datedAt(x.date, "age", strconv.Itoa(x.age), "etag", `"v"`)
		if !sameAnswer(got, want) || at != x.at {
			t.Errorf("PassHop(%#v, %d, %+v) = %#v at %d, want the age %d at %d", y, x.now, x.h, got, at, x.age, x.at)
		}
		passed(t, y, x.now, x.h)
		if x.said == 0 {
			// Without an age of its own, the field comes behind the others.
			passed(t, datedAt(x.date, "etag", `"v"`), x.now, x.h)
		}
	}
	// Answers without a date, or with one that is none, and ages that are none.
	for _, y := range []impl.Response{{}, answer(504, "cut", "cache-control", "no-store"), answer(200, "b", "date", "x", "age", "9"), answer(200, "b", "date", stamp(100), "date", stamp(100)), answer(404, "", "age", "x"), answer(404, "", "age", "7", "age", "8", "b", ""), answer(-5, "\xff", "A", "\x00")} {
		for _, h := range []impl.Hop{{}, hop(77, 2, 10), hop(-77, 2, 10)} {
			passed(t, y, 100, h)
			passed(t, y, 100, h, h)
		}
		if got, _ := impl.PassHop(y, 100, hop(77, 2, 10)); ageBy(got) != ageBy(y)+12 {
			t.Errorf("of %#v, the hop makes %#v", y, got)
		}
	}
}

func TestHopsThatAreNotPassed(t *testing.T) {
	x := datedAt(50, "a", "b")
	check := func(now int, h impl.Hop, passes bool) {
		t.Helper()
		y, at := impl.PassHop(x, now, h)
		if want, wantAt := passedBy(copied(x), now, h); !sameAnswer(y, want) || at != wantAt || len(y.Fields) == 3 != passes {
			t.Errorf("PassHop(%d, %+v) = %#v at %d, want %#v at %d", now, h, y, at, want, wantAt)
		}
	}
	for _, h := range edgeHops() {
		check(100, h, isHopBy(h))
		check(0, h, isHopBy(h))
		check(-1, h, false)
		check(2*impl.MaxTime+1, h, false)
		// One of several that is not valid: all of them are not passed.
		for n := range 3 {
			l := slices.Insert(slices.Repeat([]impl.Hop{hop(1, 2, 3)}, 2), n, h)
			y, at := passed(t, x, 100, l...)
			if !isHopBy(h) && (at != 100 || !sameAnswer(y, x)) {
				t.Errorf("PassHops of %+v gives %#v at %d", l, y, at)
			}
		}
	}
	for now, want := range map[int]bool{math.MinInt: false, -1: false, 0: true, 1: true, impl.MaxTime: true, impl.MaxTime + 1: true, 2*impl.MaxTime - 1: true, 2 * impl.MaxTime: true, 2*impl.MaxTime + 1: false, math.MaxInt: false} {
		check(now, hop(3, 2, 1), want)
		passed(t, x, now)
		passed(t, x, now, hop(3, 2, 1))
		passed(t, x, now, hop(3, 2, 1), hop(-3, 0, 0))
	}
	// On the way it may become too late for the hops behind.
	for late := range 5 {
		y, at := passed(t, x, 2*impl.MaxTime-2, hop(0, 0, late), hop(0, 1, 1), hop(0, 5, 5))
		want := 2*impl.MaxTime - 2 + late
		if want <= 2*impl.MaxTime {
			want += 2
		}
		if want <= 2*impl.MaxTime {
			want += 10
		}
		if at != want || ageBy(y) != impl.Forever {
			t.Errorf("%d seconds before the end: %#v at %d, want %d", late, y, at, want)
		}
	}
	// None and as many hops as there may be, and one more.
	for n := range 12 {
		y, at := passed(t, x, 100, slices.Repeat([]impl.Hop{hop(5, 2, 3)}, n)...)
		switch {
		case n == 0 || n > 8:
			if at != 100 || !sameAnswer(y, x) {
				t.Errorf("%d hops give %#v at %d", n, y, at)
			}
		case at != 100+5*n || ageBy(y) != 50+5*n+5:
			t.Errorf("%d hops give %#v at %d", n, y, at)
		}
	}
}

func TestExcessOf(t *testing.T) {
	for _, x := range []struct {
		want  int
		skews []int
	}{
		{0, nil}, {0, []int{0}}, {0, []int{-3}}, {0, []int{-3, -1000, 0}}, {7, []int{7}}, {7, []int{-50, 7, 5}}, {7, []int{7, 5, -50}}, {7, []int{5, -50, 7}}, {1000, []int{1000, 1000}}, {1, []int{-1, 1}},
		// Of hops that are not valid, and of more than there may be.
		{math.MaxInt, []int{5, math.MaxInt}}, {0, []int{math.MinInt}}, {1001, []int{1001, 3}}, {9, []int{1, 2, 3, 4, 5, 6, 7, 8, 9}},
	} {
		l := []impl.Hop{}
		for _, skew := range x.skews {
			l = append(l, hop(skew, -5, 1000000))
		}
		if got := impl.ExcessOf(l); got != x.want {
			t.Errorf("ExcessOf of %v = %d, want %d", x.skews, got, x.want)
		}
	}
}

func TestTrueAge(t *testing.T) {
	for _, x := range []struct {
		x    impl.Response
		t    int
		want int
	}{
		{datedAt(100), 100, 0}, {datedAt(100), 101, 1}, {datedAt(100), 99, 0}, {datedAt(100), 0, 0}, {datedAt(100), -1, 0}, {datedAt(100), -999, 0}, {datedAt(0), 0, 0}, {datedAt(0), impl.MaxTime, impl.MaxTime}, {datedAt(0), 2*impl.MaxTime + 9, 2*impl.MaxTime + 9}, {datedAt(impl.MaxTime), impl.MaxTime, 0}, {datedAt(impl.MaxTime), 3, 0}, {datedAt(100), math.MaxInt, math.MaxInt - 100}, {datedAt(0), math.MaxInt, math.MaxInt},
		// What it says of its age is no matter.
		{datedAt(100, "age", "7"), 105, 5}, {datedAt(100, "age", "7"), 95, 0}, {answer(504, "", "date", stamp(3)), 5, 2},
		// Without a date, or with one that is none.
		{impl.Response{}, 5, 0}, {answer(200, "", "age", "7"), 5, 0}, {answer(200, "", "date", "x"), 5, 0}, {answer(200, "", "date", stamp(1), "date", stamp(1)), 5, 0}, {answer(200, "", "Date", stamp(1)), 5, 0}, {impl.Response{}, math.MinInt, 0},
		// The difference wraps around.
		{datedAt(1), math.MinInt, math.MaxInt}, {datedAt(0), math.MinInt, 0}, {datedAt(100), math.MinInt + 99, math.MaxInt}, {datedAt(100), math.MinInt + 100, 0},
	} {
		if got := impl.TrueAge(x.x, x.t); got != x.want {
			t.Errorf("TrueAge(%#v, %d) = %d, want %d", x.x, x.t, got, x.want)
		}
	}
}

// hopLists gives each list of so many hops with clocks that are right, ahead and behind.
func hopLists(length int, f func([]impl.Hop)) {
	if length == 0 {
		f(nil)
		return
	}
	hopLists(length-1, func(l []impl.Hop) {
		for _, h := range []impl.Hop{hop(0, 0, 0), hop(0, 2, 9), hop(30, 3, 0), hop(-30, 0, 7), hop(12, 1, 1), hop(-1000, 4, 100), hop(1000, 1000, 5)} {
			f(append(slices.Clone(l), h))
		}
	})
}

// An answer is never said to be younger than it is: what it says is its true age and, for one that has just left the origin, just the greatest Skew more.
func TestAnAnswerIsNeverSaidToBeYoungerThanItIs(t *testing.T) {
	for length := range 5 {
		hopLists(length, func(l []impl.Hop) {
			for _, date := range []int{0, 40, 5000} {
				x, at := passed(t, datedAt(date), date, l...)
				if age := impl.AgeField(x); age != impl.TrueAge(x, at)+impl.ExcessOf(l) {
					t.Fatalf("after %+v, the age %d is said at %d, and the true one is %d", l, age, at, impl.TrueAge(x, at))
				}
			}
		})
	}
	d := &dice{state: 34}
	for range 20000 {
		l := []impl.Hop{}
		for range d.roll(9) {
			l = append(l, hop(d.roll(2001)-1000, d.roll(1001), d.roll(pick(d, []int{10, 100001}))))
		}
		date := d.roll(2000000)
		// It has been somewhere else for a while, where it was not said to be younger than it is, and by at most so much too old.
		before, more := d.roll(500), d.roll(pick(d, []int{1, 2, 1500}))
		x, at := passed(t, datedAt(date, "age", strconv.Itoa(before+more)), date+before, l...)
		age, wanted := impl.AgeField(x), impl.TrueAge(x, at)
		if age < wanted || age > wanted+max(impl.ExcessOf(l), more) {
			t.Fatalf("after %+v, the age %d is said at %d, and the true one is %d", l, age, at, wanted)
		}
		// The first hops and then the others.
		k := d.roll(len(l) + 1)
		y, then := passed(t, datedAt(date, "age", strconv.Itoa(before+more)), date+before, l[:k]...)
		if y, then = passed(t, y, then, l[k:]...); !sameAnswer(x, y) || then != at {
			t.Fatalf("%d hops of %+v and then the others give %#v at %d, want %#v at %d", k, l, y, then, x, at)
		}
	}
}

// An answer that passes nodes and hops is as old as its age says where all clocks are right.
func TestHopsWithRightClocksAreLikeNodes(t *testing.T) {
	n := networkOf(-1, 0)
	n, x := impl.FetchPage(n, 1, get("/a"), 10)
	for now := 10; now < 30; now++ {
		_, y := impl.FetchPage(n, 1, get("/a"), now)
		z, at := impl.PassHops(x, 10, []impl.Hop{hop(0, 0, now-10)})
		if at != now || impl.AgeField(z) != impl.AgeField(y) || impl.TrueAge(z, at) != impl.AgeField(z) {
			t.Errorf("at %d the node gives %#v, and the hop %#v at %d", now, y, z, at)
		}
	}
}

func TestHopsShareNoMemory(t *testing.T) {
	type way struct {
		X impl.Response
		L []impl.Hop
	}
	for _, x := range []impl.Response{datedAt(50, "a", "b"), datedAt(50, "age", "7"), {}} {
		for _, l := range [][]impl.Hop{nil, {hop(1, 2, 3)}, {hop(-9, 2, 3), hop(9, 0, 0), {}}, {hop(0, 0, -1)}, make([]impl.Hop, 8), make([]impl.Hop, 9)} {
			for _, now := range []int{100, -1} {
				checkApart(t, "the functions of hops", way{x, l}, func(w way) []any {
					all, at := impl.PassHops(w.X, now, w.L)
					one, then := impl.PassHop(w.X, now, append(slices.Clone(w.L), hop(1, 1, 1))[0])
					return []any{all, at, one, then, impl.AreHops(w.L), impl.ExcessOf(w.L), impl.TrueAge(w.X, now)}
				})
			}
		}
	}
}
