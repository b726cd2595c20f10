package tests

import (
	"fmt"
	"math"
	"regexp"
	"slices"
	"strconv"
	"strings"
	"testing"

	"loop.example/g03012/impl"
)

func rule(action int, prefix string, seconds int) impl.Rule {
	return impl.Rule{Action: action, Prefix: prefix, Seconds: seconds}
}

// ruleLine is the form of a line of a policy.
var ruleLine = regexp.MustCompile(`\A(?:(pass|deny) (/[!-~]{0,59})|(cap) (/[!-~]{0,59}) (0|[1-9][0-9]{0,9}))\z`)

// goodPrefix is the form of a prefix.
var goodPrefix = regexp.MustCompile(`\A/[!-~]{0,59}\z`)

func policyBy(s string) ([]impl.Rule, bool) {
	lines := strings.Split(s, "\n")
	last := len(lines) - 1
	l := []impl.Rule{}
	for _, line := range lines[:last] {
		m := ruleLine.FindStringSubmatch(line)
		if m == nil {
			return nil, false
		}
		seconds, _ := strconv.Atoi("0" + m[5])
		action := map[string]int{"pass": 1, "cap": 2, "deny": 3}[m[1]+m[3]]
		l = append(l, rule(action, m[2]+m[4], seconds))
		if seconds > 2147483648 {
			return nil, false
		}
	}
	if lines[last] != "" || len(l) > 8 {
		return nil, false
	}
	return l, true
}

func isPolicyBy(l []impl.Rule) bool {
	bad := slices.ContainsFunc(l, func(x impl.Rule) bool {
		limit, known := map[int]int{1: 0, 2: 2147483648, 3: 0}[x.Action]
		return !known || !goodPrefix.MatchString(x.Prefix) || x.Seconds < 0 || x.Seconds > limit
	})
	return !bad && len(l) <= 8
}

// ruleForBy sorts the rules that hold by their length.
func ruleForBy(l []impl.Rule, r impl.Request) impl.Rule {
	target, ok := normalBy(r.Target)
	holding := slices.DeleteFunc(slices.Clone(l), func(x impl.Rule) bool {
		return !ok || x.Prefix == "" || len(x.Prefix) > len(target) || target[:len(x.Prefix)] != x.Prefix
	})
	slices.SortStableFunc(holding, func(a impl.Rule, b impl.Rule) int { return len(b.Prefix) - len(a.Prefix) })
	return append(holding, impl.Rule{})[0]
}

// lifeBy is the lifetime with the cap.
func lifeBy(l []impl.Rule, r impl.Request, x impl.Response) int {
	if counts := ruleForBy(l, r); counts.Action == 2 && counts.Seconds < lifetimeBy(x) {
		return counts.Seconds
	}
	return lifetimeBy(x)
}

func checkPolicy(t *testing.T, s string) {
	t.Helper()
	want, wantOK := policyBy(s)
	got, ok := impl.ParsePolicy(s)
	if !slices.Equal(got, want) || ok != wantOK {
		t.Errorf("ParsePolicy(%q) = %+v, %v, want %+v, %v", s, got, ok, want, wantOK)
	}
	if ok && (impl.FormatPolicy(got) != s || !impl.IsPolicy(got)) {
		t.Errorf("ParsePolicy(%q) = %+v, which is written as %q", s, got, impl.FormatPolicy(got))
	}
}

func TestLimitsOfPolicies(t *testing.T) {
	if impl.MaxRules != 8 || impl.ActionPass != 1 || impl.ActionCap != 2 || impl.ActionDeny != 3 {
		t.Error(impl.MaxRules, impl.ActionPass, impl.ActionCap, impl.ActionDeny)
	}
}

func TestIsPolicy(t *testing.T) {
	check := func(want bool, l ...impl.Rule) {
		t.Helper()
		if got := impl.IsPolicy(l); got != want || isPolicyBy(l) != want {
			t.Errorf("IsPolicy(%+v) = %v, want %v", l, got, want)
		}
	}
	for n := range 12 {
		l := slices.Repeat([]impl.Rule{rule(impl.ActionPass, "/", 0)}, n)
		check(n <= 8, l...)
		for i := range n {
			l[i] = rule(impl.ActionCap, "/x", -1)
			check(false, l...)
			l[i] = rule(impl.ActionCap, "/x", 1)
			check(n <= 8, l...)
		}
	}
	for _, action := range []int{math.MinInt, -1, 0, 1, 2, 3, 4, 99} {
		for _, seconds := range edgeTimes() {
			known := 1 <= action && action <= 3
			check(known && (seconds == 0 || action == 2 && seconds > 0 && seconds <= impl.Forever), rule(action, "/a", seconds))
		}
		known := 1 <= action && action <= 3
		for prefix, good := range map[string]bool{"": false, "/": true, "//": true, "/a?b=%2F#\"~!": true, "a": false, "a/": false, " /": false, "/ ": false, "/a b": false, "/\t": false, "/\n": false, "/\x00": false, "/\x7f": false, "/\xff": false, "/ä": false, "/./..": true, "/" + strings.Repeat("p", 59): true, "/" + strings.Repeat("p", 60): false, strings.Repeat("p", 60): false} {
			check(known && good, rule(action, prefix, 0))
			check(false, rule(impl.ActionDeny, "/", 0), rule(action, prefix, 0), rule(impl.ActionPass, "/", 1))
		}
	}
	for b := range 256 {
		check(33 <= b && b <= 126, rule(impl.ActionPass, "/"+string([]byte{byte(b)})+"x", 0))
		check(b == '/', rule(impl.ActionPass, string([]byte{byte(b)})+"x", 0))
	}
}

func TestRuleFor(t *testing.T) {
	l := []impl.Rule{rule(2, "/a/", 5), rule(1, "/a", 0), rule(3, "/a/b", 0), rule(1, "", 0), rule(2, "/a", 7), rule(3, "/a/b", 9), rule(2, "/q?x", 3), rule(9, "/%2F", -4), rule(1, "/./no", 0)}
	for target, want := range map[string]int{
		// The longest prefix, and the first of those that are equally long.
		"/a": 1, "/ab": 1, "/a/": 0, "/a/a": 0, "/a/b": 2, "/a/bc": 2, "/a/b/c": 2, "/a?b": 1, "/b": -1, "/": -1, "/A": -1,
		// Targets that are written in other ways.
		"/x/../a/b": 2, "/a/./b": 2, "/a/b/..": 0, "/%61": 1, "/%41": -1, "/a/b/../..": -1, "/q?x": 6, "/q?y&x": 6, "/q?b&x": -1, "/q?xy&xz": 6, "/q?&x": 6, "/q": -1, "/%2f": 7, "/%2fa": 7, "/./no": -1, "/no": -1,
		// Bad targets, and what is none.
		"/a/%": -1, "/a/%4": -1, "/a?%zz": -1, "": -1, "a": -1, "?/a": -1, "x/a": -1,
		// Bytes that no request has.
		"/a b": 1, "/a\xff": 1,
	} {
		for _, method := range []string{"GET", "POST", ""} {
			r := impl.Request{Method: method, Target: target}
			expected := impl.Rule{}
			if want >= 0 {
				expected = l[want]
			}
			if got := impl.RuleFor(l, r); got != expected || ruleForBy(l, r) != expected {
				t.Errorf("RuleFor(%q) = %+v, want %+v", target, got, expected)
			}
			if got := impl.RuleFor(nil, r); got != (impl.Rule{}) {
				t.Errorf("RuleFor of no rules = %+v", got)
			}
		}
	}
	// Neither the host nor the fields count.
	if got := impl.RuleFor(l, request("GET", "/b", "/a", "/a/b", "/a/b")); got != l[1] {
		t.Error(got)
	}
}

func TestRuleForAgainstAnotherWay(t *testing.T) {
	kinds := []impl.Rule{rule(1, "/", 0), rule(2, "/a", 5), rule(3, "/a", 0), rule(2, "/a/b", 9), rule(1, "", 0), rule(0, "/a/", 3)}
	for n := range 5 {
		for code := range int(math.Pow(6, float64(n))) {
			l := []impl.Rule{}
			for range n {
				l = append(l, kinds[code%6])
				code /= 6
			}
			for _, target := range []string{"/", "/a", "/a/", "/a/b/c", "/b", "/%61/.", "/%"} {
				r := request("GET", "h", target)
				if got, want := impl.RuleFor(l, r), ruleForBy(l, r); got != want {
					t.Fatalf("RuleFor(%+v, %q) = %+v, want %+v", l, target, got, want)
				}
				x := ruled("max-age=7")
				if got, want := impl.LifeUnder(l, r, x), lifeBy(l, r, x); got != want {
					t.Fatalf("LifeUnder(%+v, %q) = %d, want %d", l, target, got, want)
				}
			}
		}
	}
}

func TestLifeUnder(t *testing.T) {
	for _, x := range []struct {
		l    []impl.Rule
		x    impl.Response
		want int
	}{
		{nil, ruled("max-age=20"), 20}, {nil, impl.Response{}, 0},
		// A cap above, at and below the lifetime.
		{[]impl.Rule{rule(2, "/a", 21)}, ruled("max-age=20"), 20}, {[]impl.Rule{rule(2, "/a", 20)}, ruled("max-age=20"), 20}, {[]impl.Rule{rule(2, "/a", 19)}, ruled("max-age=20"), 19}, {[]impl.Rule{rule(2, "/a", 0)}, ruled("max-age=20"), 0}, {[]impl.Rule{rule(2, "/a", 5)}, ruled("s-maxage=9, max-age=20"), 5}, {[]impl.Rule{rule(2, "/a", 50)}, ruled("s-maxage=9, max-age=20"), 9}, {[]impl.Rule{rule(2, "/a", impl.Forever)}, ruled("max-age=99999999999"), impl.Forever}, {[]impl.Rule{rule(2, "/a", impl.Forever-1)}, ruled("max-age=99999999999"), impl.Forever - 1}, {[]impl.Rule{rule(2, "/a", 5)}, answer(404, "", "date", stamp(60), "expires", stamp(90)), 5}, {[]impl.Rule{rule(2, "/a", 5)}, impl.Response{}, 0},
		// Other actions do not limit it, also with seconds; nor does a cap that does not count.
		{[]impl.Rule{rule(1, "/a", 5)}, ruled("max-age=20"), 20}, {[]impl.Rule{rule(3, "/a", 5)}, ruled("max-age=20"), 20}, {[]impl.Rule{rule(0, "/a", 5)}, ruled("max-age=20"), 20}, {[]impl.Rule{rule(4, "/a", 5)}, ruled("max-age=20"), 20}, {[]impl.Rule{rule(2, "/b", 5), rule(2, "/a/", 6), rule(2, "", 7)}, ruled("max-age=20"), 20}, {[]impl.Rule{rule(2, "/", 5), rule(1, "/a", 0)}, ruled("max-age=20"), 20}, {[]impl.Rule{rule(2, "/", 5), rule(2, "/a", 30)}, ruled("max-age=20"), 20}, {[]impl.Rule{rule(2, "/", 5), rule(2, "/a", 8), rule(2, "/a", 3)}, ruled("max-age=20"), 8},
		// A cap that no policy has.
		{[]impl.Rule{rule(2, "/a", -5)}, ruled("max-age=20"), -5},
	} {
		r := request("GET", "h", "/x/../%61")
		if got := impl.LifeUnder(x.l, r, x.x); got != x.want || lifeBy(x.l, r, x.x) != x.want {
			t.Errorf("LifeUnder(%+v, %q) = %d, want %d", x.l, x.x.Fields, got, x.want)
		}
		// For a target that is bad, no rule counts.
		if got := impl.LifeUnder(x.l, request("GET", "h", "/a%"), x.x); got != lifetimeBy(x.x) {
			t.Errorf("LifeUnder(%+v, %q) for a bad target = %d", x.l, x.x.Fields, got)
		}
	}
}

func TestFormatPolicy(t *testing.T) {
	for _, x := range []struct {
		want string
		l    []impl.Rule
	}{
		{"", nil}, {"pass /\n", []impl.Rule{rule(1, "/", 0)}}, {"cap /a 30\n", []impl.Rule{rule(2, "/a", 30)}}, {"deny /a/b\n", []impl.Rule{rule(3, "/a/b", 0)}}, {"pass /m\ncap / 0\ndeny /a?b\n", []impl.Rule{rule(1, "/m", 0), rule(2, "/", 0), rule(3, "/a?b", 0)}}, {"cap / 2147483648\n", []impl.Rule{rule(2, "/", impl.Forever)}},
		// Rules that are not valid, as they are.
		{"pass /\ndeny /\n", []impl.Rule{rule(1, "/", 7), rule(3, "/", -7)}}, {"cap / -7\ncap / 9223372036854775807\n", []impl.Rule{rule(2, "/", -7), rule(2, "/", math.MaxInt)}}, {"pass \ncap a b 1\ndeny \n\n", []impl.Rule{rule(1, "", 0), rule(2, "a b", 1), rule(3, "\n", 0)}}, {" /a\n /b\n \n", []impl.Rule{rule(0, "/a", 5), rule(4, "/b", 0), rule(-1, "", 0)}},
	} {
		if got := impl.FormatPolicy(x.l); got != x.want {
			t.Errorf("FormatPolicy(%+v) = %q, want %q", x.l, got, x.want)
		}
	}
}

func TestParsePolicy(t *testing.T) {
	long := strings.Repeat("p", 59)
	for s, want := range map[string]bool{
		"": true, "pass /\n": true, "deny /a\n": true, "cap /a 30\n": true, "cap /a 0\n": true, "pass /m\ncap / 30\ndeny /a/b\n": true, "pass /\npass /\n": true, "cap / 2147483648\n": true, "pass /" + long + "\n": true, strings.Repeat("deny /\n", 8): true, "cap /5 5\n": true,
		// Lines that end too early, that are empty, or go on.
		"pass /": false, "pass /\ndeny /": false, "pass /\nx": false, "pass": false, "pass\n": false, "pass \n": false, "cap /a\n": false, "cap /a \n": false, "cap\n": false, "cap  5\n": false, "\n": false, "pass /\n\n": false, "\npass /\n": false, "pass /\n\ndeny /\n": false, "pass /\r\n": false, "pass / 0\n": false, "pass / \n": false, "deny / 5\n": false, "cap / 5 \n": false, "cap / 5 6\n": false, "pass /\npass": false, " \n": false,
		// Two spaces, and blanks at the ends.
		"pass  /\n": false, "cap  / 5\n": false, "cap /  5\n": false, " pass /\n": false, "pass\t/\n": false, "cap /\t5\n": false,
		// Numbers that are written in other ways, or too great.
		"cap / 05\n": false, "cap / +5\n": false, "cap / -5\n": false, "cap / -0\n": false, "cap / 00\n": false, "cap / 5.0\n": false, "cap / x\n": false, "cap / 0x5\n": false, "cap / 2147483649\n": false, "cap / 1000000000001\n": false, "cap / 99999999999999999999\n": false,
		// Words that are none.
		"Pass /\n": false, "PASS /\n": false, "drop /\n": false, "passes /\n": false, "/\n": false, " /\n": false, "1 /\n": false, "cap, / 5\n": false,
		// Prefixes that are none, and too many rules.
		"pass a\n": false, "pass /\xff\n": false, "pass /\x7f\n": false, "pass /" + long + "p\n": false, "cap /" + long + "p 5\n": false, strings.Repeat("deny /\n", 9): false, strings.Repeat("cap / 1\n", 8) + "pass x\n": false,
	} {
		if _, ok := policyBy(s); ok != want {
			t.Errorf("%q should give %v", s, want)
		}
		checkPolicy(t, s)
	}
	variantsOf("cap /a 30\npass /b\n", func(s string) { checkPolicy(t, s) })
	textsOf("p/ 0\n", 6, func(s string) {
		checkPolicy(t, "cap"+s)
		checkPolicy(t, "deny /"+s)
	})
}

func TestPoliciesAreReadBack(t *testing.T) {
	for _, action := range []int{0, 1, 2, 3, 4} {
		for _, prefix := range []string{"/", "/a", "/a?b&c", "/%2F", "", "a", "/a b", "/pass", "/cap", "/\n", "/a\npass /b"} {
			for _, seconds := range []int{-1, 0, 1, 59, 2147483648, 2147483649} {
				l := []impl.Rule{rule(1, "/first", 0), rule(action, prefix, seconds), rule(2, "/last", 9)}
				got, ok := impl.ParsePolicy(impl.FormatPolicy(l))
				if impl.IsPolicy(l) && (!ok || !slices.Equal(got, l)) || ok && !impl.IsPolicy(got) {
					t.Errorf("%+v is read back as %+v, %v", l, got, ok)
				}
			}
		}
	}
}

// A cap never makes an answer live longer: whatever rule is added, only its own seconds or those of the others count, and never more than the answer says.
func TestACapNeverMakesAnAnswerLiveLonger(t *testing.T) {
	answers := []impl.Response{{}, ruled("max-age=7"), ruled("s-maxage=3, max-age=99"), ruled("max-age=99999999999"), ruled("no-store"), answer(200, "", "date", stamp(600), "last-modified", stamp(0)), answer(410, "", "date", stamp(60), "expires", stamp(90))}
	prefixes := []string{"/", "/a", "/a/", "/b"}
	for _, x := range answers {
		for _, target := range []string{"/a", "/a/b", "/x/../b", "/c", "/%"} {
			r := request("GET", "h", target)
			for i, first := range prefixes {
				for seconds := 0; seconds < 100; seconds += 3 {
					l := []impl.Rule{rule(2, first, seconds), rule(2, prefixes[(i+1)%4], 5), rule(1+i%3, prefixes[(i+2)%4], 0)}
					life := impl.LifeUnder(l, r, x)
					if life > impl.LifetimeOf(x) || life != lifeBy(l, r, x) {
						t.Fatalf("LifeUnder(%+v, %q, %q) = %d, and the lifetime is %d", l, target, x.Fields, life, impl.LifetimeOf(x))
					}
					// A greater cap allows no less, and alone it is the limit.
					l[0].Seconds++
					if more := impl.LifeUnder(l, r, x); more < life || more > life+1 {
						t.Fatalf("LifeUnder(%+v, %q, %q) = %d, and %d with one second less", l, target, x.Fields, more, life)
					}
					if alone := impl.LifeUnder(l[:1], r, x); alone > impl.LifetimeOf(x) {
						t.Fatalf("LifeUnder(%+v, %q, %q) = %d", l[:1], target, x.Fields, alone)
					}
				}
			}
		}
	}
}

func TestPoliciesShareNoMemory(t *testing.T) {
	s := "pass /a\ncap / 5\n"
	first, _ := impl.ParsePolicy(s)
	second, _ := impl.ParsePolicy(s)
	clear(first[:cap(first)])
	if fmt.Sprint(second) != "[{1 /a 0} {2 / 5}]" {
		t.Error(second)
	}
	for _, l := range [][]impl.Rule{nil, {rule(1, "/a", 0), rule(2, "/", 5)}, {rule(9, "", 0)}} {
		checkApart(t, "the functions of policies", []any{l, request("GET", "h", "/a", "a", "b"), ruled("max-age=9")}, func(a []any) []any {
			l, r, x := a[0].([]impl.Rule), a[1].(impl.Request), a[2].(impl.Response)
			return []any{impl.IsPolicy(l), impl.RuleFor(l, r), impl.LifeUnder(l, r, x), impl.FormatPolicy(l)}
		})
	}
}
