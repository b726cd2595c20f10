package tests

import (
	"math"
	"slices"
	"strings"
	"testing"

	"loop.example/g03012/impl"
)

// ruleBy returns the first rule of a message with this name, and whether there is one.
func ruleBy(l []impl.Field, name string) (impl.Directive, bool) {
	value, _ := valuesBy(l, "cache-control")
	rules := directivesBy(value)
	i := slices.IndexFunc(rules, func(d impl.Directive) bool { return d.Name == name })
	if i < 0 {
		return impl.Directive{}, false
	}
	return rules[i], true
}

// limitBy returns the seconds of a rule, or another number if there is no such rule.
func limitBy(l []impl.Field, name string, other int) int {
	rule, has := ruleBy(l, name)
	if !has {
		return other
	}
	return secondsBy(rule.Value)
}

// unwantedBy tells whether the request wants no answer of this age.
func unwantedBy(r impl.Request, age int) bool {
	return ruledBy(r.Fields, "no-cache") || age > limitBy(r.Fields, "max-age", math.MaxInt)
}

func boundBy(x impl.Response) bool {
	return ruledBy(x.Fields, "must-revalidate", "proxy-revalidate", "s-maxage", "no-cache")
}

func planBy(r impl.Request, x impl.Response, age int, life int) int {
	over, left := age-life, life-age
	stale, hasStale := ruleBy(r.Fields, "max-stale")
	useIt := age < life || hasStale && (!stale.Has || over <= secondsBy(stale.Value))
	useStale := ruledBy(x.Fields, "stale-while-revalidate") && over <= limitBy(x.Fields, "stale-while-revalidate", 0)
	fixed := age >= life && (boundBy(x) || ruledBy(r.Fields, "min-fresh"))
	asked := unwantedBy(r, age) || ruledBy(x.Fields, "no-cache") || left < limitBy(r.Fields, "min-fresh", math.MinInt)
	switch {
	case !asked && !fixed && useIt:
		return 1
	case !asked && !fixed && useStale:
		return 2
	case ruledBy(r.Fields, "only-if-cached"):
		return 4
	}
	return 3
}

func usableBy(r impl.Request, x impl.Response, age int, life int) bool {
	late := ruledBy(x.Fields, "stale-if-error") && age-life <= limitBy(x.Fields, "stale-if-error", 0)
	return !boundBy(x) && !unwantedBy(r, age) && (age < life || late)
}

// asking is a request with these rules, ruled an answer with them.
func asking(control string) impl.Request {
	return request("GET", "h", "/", "cache-control", control)
}

func ruled(control string) impl.Response {
	return answer(200, "b", "date", stamp(60), "cache-control", control)
}

func checkPlan(t *testing.T, r impl.Request, x impl.Response, age int, life int, want int) {
	t.Helper()
	if got := impl.PlanFor(r, x, age, life); got != want {
		t.Errorf("PlanFor(%q, %q, %d, %d) = %d, want %d", r.Fields, x.Fields, age, life, got, want)
	}
	if by := planBy(r, x, age, life); by != want {
		t.Errorf("%q, %q, %d, %d should give %d, want %d", r.Fields, x.Fields, age, life, by, want)
	}
}

func TestPlans(t *testing.T) {
	if impl.UseIt != 1 || impl.UseStale != 2 || impl.CheckIt != 3 || impl.GiveUp != 4 {
		t.Error(impl.UseIt, impl.UseStale, impl.CheckIt, impl.GiveUp)
	}
}

// The plans for ages from 8 to 13 and the lifetime 10, as digits.
func TestPlanForEachRule(t *testing.T) {
	for _, x := range []struct{ asked, given, plans string }{
		{"", "", "113333"}, {"x, maxage=1, nocache, max-stales", "x, max-age=1, max-stale, min-fresh=9", "113333"},
		// Rules that forbid even a fresh one.
		{"no-cache", "", "333333"}, {"No-Cache=x", "", "333333"}, {"", "no-cache", "333333"}, {"", "no-cache=\"set-cookie\"", "333333"}, {"", "NO-CACHE", "333333"}, {"no-cache, max-stale", "stale-while-revalidate=9", "333333"}, {"max-stale", "no-cache, stale-while-revalidate=9", "333333"},
		// max-age, with one second less, the same and one more; without a value and with one that is no number.
		{"max-age=7", "", "333333"}, {"max-age=8", "", "133333"}, {"max-age=9", "", "113333"}, {"max-age=11, max-stale", "", "111133"}, {"max-age=12, max-stale", "", "111113"}, {"max-age=11", "stale-while-revalidate=9", "112233"}, {"max-age", "", "333333"}, {"max-age=x", "", "333333"}, {"max-age=\"9\"", "", "113333"}, {"max-age=009, max-age=7", "", "113333"}, {"max-age=", "", "113333"}, {"max-age=99999999999999", "", "113333"},
		// min-fresh: the seconds that are left.
		{"min-fresh=3", "", "333333"}, {"min-fresh=2", "", "133333"}, {"min-fresh=1", "", "113333"}, {"min-fresh=0", "", "113333"}, {"min-fresh", "", "113333"}, {"min-fresh=x", "", "113333"}, {"min-fresh=99999999999999", "", "333333"}, {"min-fresh=2, min-fresh=0", "", "133333"}, {"min-fresh=0, max-stale", "stale-while-revalidate=9", "113333"}, {"max-stale, min-fresh", "", "113333"}, {"min-fresh=, max-stale", "", "111111"},
		// max-stale, with and without a value.
		{"max-stale", "", "111111"}, {"max-stale=0", "", "111333"}, {"max-stale=1", "", "111133"}, {"max-stale=2", "", "111113"}, {"max-stale=3", "", "111111"}, {"max-stale=x", "", "111333"}, {"max-stale=\"\"", "", "111333"}, {"max-stale=", "", "113333"}, {"max-stale=1, max-stale", "", "111133"}, {"max-stale, max-stale=1", "", "111111"}, {"MAX-STALE=\"1\"", "", "111133"}, {"max-stale=99999999999999", "", "111111"},
		// The four rules that bind.
		{"max-stale", "must-revalidate", "113333"}, {"max-stale", "proxy-revalidate", "113333"}, {"max-stale", "s-maxage=5", "113333"}, {"max-stale", "s-maxage", "113333"}, {"max-stale", "no-cache", "333333"}, {"max-stale", "Must-Revalidate=x", "113333"}, {"max-stale", "must-revalidate=", "111111"}, {"max-stale", "x=must-revalidate, revalidate", "111111"}, {"must-revalidate, max-stale, s-maxage=5, proxy-revalidate", "", "111111"}, {"", "stale-while-revalidate=9, must-revalidate", "113333"}, {"", "proxy-revalidate, stale-while-revalidate=9", "113333"}, {"", "s-maxage=0, stale-while-revalidate=9", "113333"},
		// stale-while-revalidate.
		{"", "stale-while-revalidate=0", "112333"}, {"", "stale-while-revalidate=1", "112233"}, {"", "stale-while-revalidate=2", "112223"}, {"", "stale-while-revalidate=3", "112222"}, {"", "stale-while-revalidate", "112333"}, {"", "stale-while-revalidate=x", "112333"}, {"", "stale-while-revalidate=", "113333"}, {"", "stale-while-revalidate=1, stale-while-revalidate=9", "112233"}, {"stale-while-revalidate=9", "", "113333"}, {"", "stale-if-error=9", "113333"}, {"max-stale=0", "stale-while-revalidate=2", "111223"}, {"max-stale=2", "stale-while-revalidate=1", "111113"}, {"max-stale", "stale-while-revalidate=1", "111111"},
		// only-if-cached.
		{"only-if-cached", "", "114444"}, {"only-if-cached, no-cache", "", "444444"}, {"Only-If-Cached=x", "no-cache", "444444"}, {"only-if-cached, max-age=8", "", "144444"}, {"min-fresh=2, only-if-cached", "", "144444"}, {"max-stale=1, only-if-cached", "", "111144"}, {"max-stale, only-if-cached", "must-revalidate", "114444"}, {"only-if-cached", "stale-while-revalidate=2", "112224"}, {"only-if-cached, max-stale", "", "111111"}, {"", "only-if-cached", "113333"},
	} {
		for i, plan := range x.plans {
			age := 8 + i
			checkPlan(t, asking(x.asked), ruled(x.given), age, 10, int(plan-'0'))
			// With both turned by the same number, also to ages and lifetimes below 0 and beyond Forever, if no rule names the age.
			if !strings.Contains(x.asked, "max-age") {
				for _, more := range []int{-8, -10, -11, -100, impl.Forever, math.MinInt / 2} {
					checkPlan(t, asking(x.asked), ruled(x.given), age+more, 10+more, int(plan-'0'))
				}
			}
		}
	}
}

func TestPlanForMessagesOfOtherKinds(t *testing.T) {
	// No fields at all, rules in several fields, and fields of other names.
	checkPlan(t, impl.Request{}, impl.Response{}, 0, 0, impl.CheckIt)
	checkPlan(t, impl.Request{}, impl.Response{}, -1, 0, impl.UseIt)
	checkPlan(t, impl.Request{}, impl.Response{}, 0, 1, impl.UseIt)
	checkPlan(t, request("GET", "h", "/", "cache-control", "x", "cache-control", "no-cache"), ruled(""), 0, 1, impl.CheckIt)
	checkPlan(t, request("GET", "h", "/", "cache-control", "max-stale=1", "cache-control", "max-stale"), ruled(""), 3, 1, impl.CheckIt)
	checkPlan(t, asking("max-stale"), answer(200, "", "cache-control", "x", "cache-control", "s-maxage=9"), 3, 1, impl.CheckIt)
	checkPlan(t, request("GET", "h", "/", "pragma", "no-cache", "Cache-Control", "no-cache", "no-cache", ""), ruled(""), 0, 1, impl.UseIt)
	checkPlan(t, request("POST", "", "", "cache-control", "only-if-cached"), answer(500, "x", "a", "no-cache"), 1, 1, impl.GiveUp)
	// A quoted string that does not end takes the other rules into itself.
	checkPlan(t, asking("x=\"a, no-cache"), ruled("y=\", no-cache"), 0, 1, impl.UseIt)
}

func TestPlanForAtTheEndsOfTheNumbers(t *testing.T) {
	asked := []string{"", "max-age=60", "max-age=99999999999", "min-fresh=0", "min-fresh=99999999999", "max-stale", "max-stale=0", "max-stale=99999999999"}
	given := []string{"", "stale-while-revalidate=0, stale-if-error=0", "stale-while-revalidate=99999999999, stale-if-error=99999999999"}
	for _, a := range asked {
		for _, g := range given {
			for _, age := range edgeTimes() {
				for _, life := range edgeTimes() {
					r, x := asking(a), ruled(g)
					checkPlan(t, r, x, age, life, planBy(r, x, age, life))
					if got, want := impl.MayUseOnError(r, x, age, life), usableBy(r, x, age, life); got != want {
						t.Errorf("MayUseOnError(%q, %q, %d, %d) = %v", a, g, age, life, got)
					}
				}
			}
		}
	}
	// What is over by a number that wraps around.
	checkPlan(t, asking("max-stale=0"), ruled(""), math.MaxInt, -1, impl.UseIt)
	checkPlan(t, asking(""), ruled("stale-while-revalidate=0"), math.MaxInt, -1, impl.UseStale)
	checkPlan(t, asking("min-fresh=0"), ruled(""), math.MinInt, 1, impl.CheckIt)
}

func TestMayUseOnError(t *testing.T) {
	// For ages from 8 to 13 and the lifetime 10.
	for _, x := range []struct{ asked, given, may string }{
		{"", "", "110000"}, {"", "stale-if-error=0", "111000"}, {"", "stale-if-error=1", "111100"}, {"", "stale-if-error=2", "111110"}, {"", "stale-if-error=3", "111111"}, {"", "stale-if-error", "111000"}, {"", "stale-if-error=x", "111000"}, {"", "stale-if-error=", "110000"}, {"", "Stale-If-Error=\"1\"", "111100"}, {"", "stale-if-error=1, stale-if-error=9", "111100"}, {"", "stale-if-error=99999999999999", "111111"}, {"stale-if-error=9", "", "110000"}, {"", "stale-while-revalidate=9", "110000"},
		// What the request says of it.
		{"no-cache", "stale-if-error=9", "000000"}, {"NO-CACHE=x", "", "000000"}, {"max-age=7", "stale-if-error=9", "000000"}, {"max-age=8", "stale-if-error=9", "100000"}, {"max-age=11", "stale-if-error=9", "111100"}, {"max-age=12", "stale-if-error=9", "111110"}, {"max-age=12", "stale-if-error=1", "111100"}, {"max-age", "", "000000"}, {"max-age=x", "stale-if-error=9", "000000"}, {"max-age=, x", "stale-if-error=1", "111100"}, {"max-age=11, max-age=0", "stale-if-error=9", "111100"},
		// What it does not ask for here.
		{"max-stale, min-fresh=9, only-if-cached, no-store", "", "110000"}, {"min-fresh=99", "stale-if-error=1", "111100"}, {"only-if-cached", "stale-if-error=9", "111111"}, {"max-stale=0", "stale-if-error=1", "111100"},
		// The four rules that bind, also what is fresh.
		{"", "stale-if-error=9, must-revalidate", "000000"}, {"", "proxy-revalidate, stale-if-error=9", "000000"}, {"", "s-maxage=99, stale-if-error=9", "000000"}, {"", "no-cache, stale-if-error=9", "000000"}, {"", "must-revalidate", "000000"}, {"", "S-MAXAGE", "000000"}, {"must-revalidate, proxy-revalidate, s-maxage=1", "stale-if-error=1", "111100"},
	} {
		for i, may := range x.may {
			for _, more := range []int{0, impl.Forever, -8, -20} {
				if more != 0 && strings.Contains(x.asked, "max-age") {
					continue
				}
				r, y, age, life := asking(x.asked), ruled(x.given), 8+i+more, 10+more
				if got, by := impl.MayUseOnError(r, y, age, life), usableBy(r, y, age, life); got != (may == '1') || by != got {
					t.Errorf("MayUseOnError(%q, %q, %d, %d) = %v, and by the rules %v", x.asked, x.given, age, life, got, by)
				}
			}
		}
	}
	if impl.MayUseOnError(impl.Request{}, impl.Response{}, 0, 0) || !impl.MayUseOnError(impl.Request{}, impl.Response{}, -1, 0) || impl.MayUseOnError(impl.Request{}, answer(200, "", "cache-control", "stale-if-error=9", "cache-control", "no-cache"), 0, 1) {
		t.Error("messages of other kinds")
	}
}

// rulePairs calls f with no rule, each of the rules and each two of them in both orders.
func rulePairs(rules []string, f func(string)) {
	f("")
	for _, a := range rules {
		f(a)
		for _, b := range rules {
			if a != b {
				f(a + ", " + b)
			}
		}
	}
}

var (
	askedRules = []string{"no-cache", "max-age=11", "max-age=0", "min-fresh=2", "min-fresh", "max-stale", "max-stale=2", "only-if-cached", "no-store"}
	givenRules = []string{"no-cache", "must-revalidate", "proxy-revalidate", "s-maxage=3", "stale-while-revalidate=1", "stale-while-revalidate", "stale-if-error=2", "max-age=10"}
)

func TestServingAgainstTheRules(t *testing.T) {
	rulePairs(askedRules, func(asked string) {
		rulePairs(givenRules, func(given string) {
			r, x := asking(asked), ruled(given)
			for _, age := range []int{0, 8, 9, 10, 11, 12, 13} {
				if got, want := impl.PlanFor(r, x, age, 10), planBy(r, x, age, 10); got != want {
					t.Fatalf("PlanFor(%q, %q, %d, 10) = %d, want %d", asked, given, age, got, want)
				}
				if got, want := impl.MayUseOnError(r, x, age, 10), usableBy(r, x, age, 10); got != want {
					t.Fatalf("MayUseOnError(%q, %q, %d, 10) = %v", asked, given, age, got)
				}
			}
		})
	})
}

// What may be used may be used when it is younger: second by second back to before it was made, and it is never used stale then but fresh before.
func TestWhatMayBeUsedMayBeUsedWhenItIsYounger(t *testing.T) {
	rulePairs(askedRules, func(asked string) {
		rulePairs(givenRules, func(given string) {
			r, x := asking(asked), ruled(given)
			for _, life := range []int{0, 10, impl.LifetimeOf(x)} {
				plan, may := impl.PlanFor(r, x, life+9, life), impl.MayUseOnError(r, x, life+9, life)
				for age := life + 8; age >= -2; age-- {
					younger, mayYounger := impl.PlanFor(r, x, age, life), impl.MayUseOnError(r, x, age, life)
					if plan <= impl.UseStale && younger > plan {
						t.Fatalf("PlanFor(%q, %q, %d, %d) = %d, and %d a second later", asked, given, age, life, younger, plan)
					}
					if may && !mayYounger {
						t.Fatalf("MayUseOnError(%q, %q, %d, %d) = false, and true a second later", asked, given, age, life)
					}
					plan, may = younger, mayYounger
				}
			}
		})
	})
}

func TestServingSharesNoMemory(t *testing.T) {
	room := impl.Field{Name: "cache-control", Value: "no-cache, only-if-cached"}
	for _, l := range [][]impl.Field{pairs("cache-control", "max-stale=3, stale-while-revalidate=3"), pairs("a", "1", "cache-control", "only-if-cached"), nil} {
		checkNewMemory(t, "PlanFor and MayUseOnError", l, room, func(l []impl.Field) []int {
			r, x := impl.Request{Fields: l}, impl.Response{Fields: l}
			if impl.MayUseOnError(r, x, 9, 10) {
				return []int{impl.PlanFor(r, x, 11, 10), impl.PlanFor(impl.Request{}, x, 11, 10), 1}
			}
			return []int{impl.PlanFor(r, x, 11, 10), impl.PlanFor(impl.Request{}, x, 11, 10), 0}
		})
	}
}
