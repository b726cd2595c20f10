package tests

import (
	"math"
	"math/big"
	"slices"
	"strconv"
	"strings"
	"testing"

	"loop.example/g03012/impl"
)

// lifetimeBy asks one rule after the other.
func lifetimeBy(x impl.Response) int {
	control, _ := valuesBy(x.Fields, "cache-control")
	for _, name := range []string{"s-maxage", "max-age"} {
		rules := directivesBy(control)
		if i := slices.IndexFunc(rules, func(d impl.Directive) bool { return d.Name == name }); i >= 0 {
			return secondsBy(rules[i].Value)
		}
	}
	times := map[string]*big.Int{}
	for _, name := range []string{"date", "expires", "last-modified"} {
		value, has := valuesBy(x.Fields, name)
		if at, ok := dateOf(value); has && ok {
			times[name] = big.NewInt(int64(at))
		}
	}
	_, hasExpires := valuesBy(x.Fields, "expires")
	life := new(big.Int)
	switch {
	case times["date"] == nil:
	case hasExpires && times["expires"] != nil:
		life.Sub(times["expires"], times["date"])
	case !hasExpires && x.Code == 200 && times["last-modified"] != nil:
		life.Sub(times["date"], times["last-modified"])
		life.Quo(life, big.NewInt(10))
		if life.Cmp(big.NewInt(86400)) > 0 {
			life.SetInt64(86400)
		}
	}
	return max(0, int(life.Int64()))
}

func checkLifetime(t *testing.T, x impl.Response, want int) {
	t.Helper()
	if got := impl.LifetimeOf(x); got != want {
		t.Errorf("LifetimeOf(%d %q) = %d, want %d", x.Code, x.Fields, got, want)
	}
	if by := lifetimeBy(x); by != want {
		t.Errorf("%d %q should give %d, want %d", x.Code, x.Fields, by, want)
	}
	for _, age := range []int{math.MinInt, -1, 0, 1, want - 1, want, want + 1, impl.Forever, math.MaxInt} {
		if got := impl.IsFresh(x, age); got != (age < want) {
			t.Errorf("IsFresh(%d %q, %d) = %v, and its lifetime is %d", x.Code, x.Fields, age, got, want)
		}
	}
}

func TestMaxGuess(t *testing.T) {
	if impl.MaxGuess != 86400 {
		t.Error(impl.MaxGuess)
	}
}

func TestLifetimeByRules(t *testing.T) {
	// What the other ways would say: 30 seconds by expires, 9 by the time of change.
	others := [][]string{nil, {"date", stamp(100)}, {"date", stamp(100), "last-modified", stamp(5)}, {"date", stamp(100), "expires", stamp(130), "last-modified", stamp(5)}, {"expires", ""}}
	for control, want := range map[string]int{
		"max-age=7": 7, "s-maxage=3": 3, "max-age=7, s-maxage=3": 3, "s-maxage=3, max-age=7": 3, "s-maxage=9, max-age=7": 9, "public, max-age=7": 7, "MAX-AGE=7": 7, "S-MaxAge=3, Max-Age=7": 3, "no-cache, no-store, private, max-age=7": 7, "must-revalidate, s-maxage=0, max-age=7": 0, "max-age=0": 0,
		// Without a number, with quotes, and with what is no number.
		"max-age": 0, "s-maxage": 0, "s-maxage, max-age=7": 0, "max-age=\"7\"": 7, "s-maxage=\"3\", max-age=7": 3, "max-age=\"\"": 0, "max-age=x": 0, "max-age=7s": 0, "max-age=-7": 0, "max-age=+7": 0, "max-age=7.5": 0, "s-maxage=x, max-age=7": 0, "max-age=007": 7, "max-age=\" 7\"": 0,
		// Numbers that are too great.
		"max-age=2147483647": 2147483647, "max-age=2147483648": impl.Forever, "max-age=2147483649": impl.Forever, "s-maxage=99999999999999999999": impl.Forever, "max-age=1" + strings.Repeat("0", 39): impl.Forever,
		// Twice: the first one.
		"max-age=7, max-age=9": 7, "max-age=9, max-age=7": 9, "max-age, max-age=7": 0, "s-maxage=3, s-maxage=4, max-age=7": 3, "max-age=7, s-maxage=4, s-maxage=3": 4, "max-age=x, MAX-AGE=7": 0,
		// A rule that cannot be read is left out.
		"s-maxage=, max-age=7": 7, "s-maxage=3 4, max-age=7": 7, "max-age=, max-age=7": 7, "max-age=(1), s-maxage=3": 3,
	} {
		for _, l := range others {
			for _, code := range []int{200, 206, 301, 404, 410, 500, 0} {
				checkLifetime(t, answer(code, "b", append([]string{"cache-control", control}, l...)...), want)
				checkLifetime(t, answer(code, "", append(l, "cache-control", "x", "cache-control", control)...), want)
			}
		}
	}
	checkLifetime(t, answer(200, "", "cache-control", "max-age=7", "cache-control", "s-maxage=3"), 3)
	checkLifetime(t, answer(200, "", "cache-control", "max-age=7", "cache-control", "max-age=9"), 7)
	// The quotes do not end, so that no rule is left.
	checkLifetime(t, answer(200, "", "cache-control", "s-maxage=\"3, max-age=7"), 0)
	checkLifetime(t, answer(200, "", "Cache-Control", "max-age=7", "pragma", "max-age=8", "max-age", "9"), 0)
}

func TestLifetimeByExpires(t *testing.T) {
	for _, x := range []struct {
		fields []string
		want   int
	}{
		// Before, at and behind the date.
		{[]string{"date", stamp(100), "expires", stamp(99)}, 0}, {[]string{"date", stamp(100), "expires", stamp(0)}, 0}, {[]string{"date", stamp(100), "expires", stamp(100)}, 0}, {[]string{"date", stamp(100), "expires", stamp(101)}, 1}, {[]string{"date", stamp(100), "expires", stamp(130)}, 30}, {[]string{"expires", stamp(130), "date", stamp(100)}, 30}, {[]string{"date", stamp(0), "expires", stamp(impl.MaxTime)}, impl.MaxTime}, {[]string{"date", stamp(impl.MaxTime), "expires", stamp(0)}, 0}, {[]string{"date", dateAs(longForm, 100), "expires", dateAs(plainForm, 130)}, 30},
		// One that is no date, or stands twice, and one without a date of the answer.
		{[]string{"date", stamp(100), "expires", "0"}, 0}, {[]string{"date", stamp(100), "expires", "-1"}, 0}, {[]string{"date", stamp(100), "expires", ""}, 0}, {[]string{"date", stamp(100), "expires", "130"}, 0}, {[]string{"date", stamp(100), "expires", stamp(130), "expires", stamp(130)}, 0}, {[]string{"date", stamp(100), "expires", stamp(130), "expires", ""}, 0}, {[]string{"expires", stamp(130)}, 0}, {[]string{"date", "", "expires", stamp(130)}, 0}, {[]string{"date", "100", "expires", stamp(130)}, 0}, {[]string{"date", stamp(100), "date", stamp(100), "expires", stamp(130)}, 0},
		// Rules that say nothing about it.
		{[]string{"date", stamp(100), "expires", stamp(130), "cache-control", "public, no-cache, stale-if-error=5, x=\"max-age=7\", smaxage=3"}, 30}, {[]string{"date", stamp(100), "expires", stamp(130), "cache-control", ""}, 30}, {[]string{"date", stamp(100), "expires", stamp(130), "cache-control", "max-age=\"7"}, 30},
	} {
		for _, code := range []int{200, 404, 206, 500, 0} {
			checkLifetime(t, answer(code, "", x.fields...), x.want)
			// The time of change does not count beside it.
			checkLifetime(t, answer(code, "", append([]string{"last-modified", stamp(5)}, x.fields...)...), x.want)
		}
	}
}

func TestLifetimeByTheTimeOfChange(t *testing.T) {
	for difference, want := range map[int]int{0: 0, 1: 0, 9: 0, 10: 1, 19: 1, 20: 2, 95: 9, 99: 9, 100: 10, 863999: 86399, 863990: 86399, 864000: 86400, 864009: 86400, 864010: 86400, 10000000: 86400, impl.MaxTime - 5: 86400, -1: 0, -5: 0} {
		x := answer(200, "", "date", stamp(5+difference), "last-modified", stamp(5))
		checkLifetime(t, x, want)
		if difference < 1000000000 {
			// Years of two digits do not go further.
			checkLifetime(t, answer(200, "", "last-modified", dateAs(plainForm, 5), "date", dateAs(longForm, 5+difference)), want)
		}
		// Codes beside 200.
		for _, code := range []int{0, 199, 201, 203, 206, 304, 404, 410, 500} {
			x.Code = code
			checkLifetime(t, x, 0)
		}
	}
	checkLifetime(t, answer(200, "", "date", stamp(0), "last-modified", stamp(impl.MaxTime)), 0)
	checkLifetime(t, answer(200, "", "date", stamp(5), "last-modified", stamp(95)), 0)
	for _, l := range [][]string{nil, {"date", stamp(100)}, {"last-modified", stamp(5)}, {"date", "", "last-modified", stamp(5)}, {"date", stamp(100), "last-modified", ""}, {"date", "100", "last-modified", stamp(5)}, {"date", stamp(100), "last-modified", "5"}, {"date", stamp(100), "last-modified", stamp(5), "last-modified", stamp(5)}, {"date", stamp(100), "date", stamp(100), "last-modified", stamp(5)}, {"Date", stamp(100), "Last-Modified", stamp(5)}, {"expires", "x", "date", stamp(100), "last-modified", stamp(5)}} {
		checkLifetime(t, answer(200, "", l...), 0)
	}
}

// The lifetime for shared caches counts first, whatever the others say, then that for all, then the date, then the guess.
func TestTheLifetimeForSharedCachesCountsFirst(t *testing.T) {
	ways := []struct {
		fields []string
		life   int
	}{
		{[]string{"cache-control", "s-maxage=1000"}, 1000}, {[]string{"cache-control", "max-age=2000"}, 2000}, {[]string{"expires", stamp(604000)}, 4000}, {[]string{"last-modified", stamp(0)}, 60000},
	}
	for set := range 1 << len(ways) {
		for _, reversed := range []bool{false, true} {
			l, want := [][]string{{"date", stamp(600000)}}, 0
			for i, way := range slices.Backward(ways) {
				if set>>i&1 == 1 {
					l, want = append(l, way.fields), way.life
				}
			}
			if reversed {
				slices.Reverse(l)
			}
			x := answer(200, "", slices.Concat(l...)...)
			checkLifetime(t, x, want)
			x.Code = 404
			if set == 8 {
				want = 0
			}
			checkLifetime(t, x, want)
		}
	}
	for shared := range 20 {
		for _, others := range []string{"max-age=5", "max-age", "no-cache", "max-age=99999999999", "s-maxage=77"} {
			checkLifetime(t, answer(200, "", "date", stamp(100), "expires", stamp(150), "last-modified", stamp(0), "cache-control", "s-maxage="+strconv.Itoa(shared)+", "+others), shared)
		}
	}
}

func TestLifetimesAgainstTheRules(t *testing.T) {
	controls := []string{"-", "", "max-age=7", "s-maxage=0", "s-maxage=x, max-age=7", "max-age", "public"}
	dates := []string{"-", "", stamp(100), stamp(130), stamp(1000000), dateAs(plainForm, 5), "never"}
	for _, control := range controls {
		for _, date := range dates {
			for _, expires := range dates {
				for _, change := range dates {
					l := pairs("last-modified", change, "expires", expires, "cache-control", control, "date", date)
					l = slices.DeleteFunc(l, func(f impl.Field) bool { return f.Value == "-" })
					for _, code := range []int{200, 404} {
						x := impl.Response{Code: code, Fields: l}
						checkLifetime(t, x, lifetimeBy(x))
					}
				}
			}
		}
	}
}

func TestLifetimesShareNoMemory(t *testing.T) {
	room := impl.Field{Name: "cache-control", Value: "s-maxage=1"}
	for _, l := range [][]impl.Field{pairs("cache-control", "max-age=7"), pairs("date", stamp(100), "expires", stamp(130)), pairs("date", stamp(100), "last-modified", stamp(5)), nil} {
		checkNewMemory(t, "LifetimeOf and IsFresh", l, room, func(l []impl.Field) []int {
			x := impl.Response{Code: 200, Fields: l}
			if impl.IsFresh(x, 8) {
				return []int{impl.LifetimeOf(x), 1}
			}
			return []int{impl.LifetimeOf(x), 0}
		})
	}
}
