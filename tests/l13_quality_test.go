package tests

import (
	"math"
	"regexp"
	"slices"
	"strconv"
	"strings"
	"testing"

	"loop.example/g03012/impl"
)

// qualityPart is the rule of an element as a pattern.
var qualityPart = regexp.MustCompile("\\A[\t ]*([a-zA-Z0-9!#$%&'*+.^_|~`-]{1,40})[\t ]*(?:;[\t ]*[qQ][\t ]*=[\t ]*(0(?:\\.[0-9]{0,3})?|1(?:\\.0{0,3})?)[\t ]*)?\\z")

func qualitiesBy(s string) []impl.Quality {
	l := []impl.Quality{}
	for _, part := range splitBy(s) {
		m := qualityPart.FindStringSubmatch(part)
		if m == nil {
			continue
		}
		weight := 1.0
		if m[2] != "" {
			weight, _ = strconv.ParseFloat(m[2], 64)
		}
		l = append(l, quality(strings.ToLower(m[1]), int(math.Round(weight*1000))))
	}
	return l
}

func quality(name string, q int) impl.Quality {
	return impl.Quality{Name: name, Q: q}
}

func checkQualities(t *testing.T, s string, want ...impl.Quality) {
	t.Helper()
	if got := impl.ParseQualities(s); !slices.Equal(got, want) {
		t.Errorf("ParseQualities(%q) = %v, want %v", s, got, want)
	}
}

func TestWeights(t *testing.T) {
	for s, want := range map[string]int{
		"0": 0, "0.": 0, "0.0": 0, "0.00": 0, "0.000": 0, "0.5": 500, "0.50": 500, "0.500": 500, "0.25": 250, "0.125": 125, "0.1": 100, "0.01": 10, "0.001": 1, "0.05": 50, "0.9": 900, "0.99": 990, "0.999": 999, "0.010": 10, "1": 1000, "1.": 1000, "1.0": 1000, "1.00": 1000, "1.000": 1000,
	} {
		checkQualities(t, "a;q="+s, quality("a", want))
		checkQualities(t, "x, *; Q = "+s+" ,y", quality("x", 1000), quality("*", want), quality("y", 1000))
	}
	for n := range 1000 {
		digits := strconv.Itoa(1000 + n)[1:]
		checkQualities(t, "a;q=0."+digits, quality("a", n))
		if n > 0 {
			checkQualities(t, "a;q=1."+digits)
		}
	}
	for _, s := range []string{
		"", " ", ".", ".5", ".0", "2", "9", "10", "00", "01", "11", "00.5", "01.0", "2.0", "1.001", "1.01", "1.1", "1.5", "1.010", "0.1234", "0.0000", "1.0000", "1.00000", "0..", "0.5.", "0..5", "0.5.1", "1.0.", "+0", "-0", "-0.5", "+1", "-1", "0.+5", "0.-5", "0. 5", "0 .5", "0 5", "0.a", "0.5a", "a", "1a", "0x1", "0.5e1", "1e0", "0._5", "0_", "\"0.5\"", "'0'", "0.\u0665", "\u0660", "0.\xff", "0=", "=0", "0\n", "0.5\x00", "99999999999999999999", "0.99999999999999999999", "18446744073709551616",
	} {
		checkQualities(t, "a;q="+s)
		checkQualities(t, "x, a;q="+s+", y", quality("x", 1000), quality("y", 1000))
	}
}

func TestParseQualities(t *testing.T) {
	forty := strings.Repeat("n", 40)
	// No elements.
	checkQualities(t, "")
	checkQualities(t, " ,\t, ")
	checkQualities(t, "en", quality("en", 1000))
	checkQualities(t, "DE;q=0.5, en, fr;q=1.5, *;Q=0.25, it;x=1, es;q=0.", quality("de", 500), quality("en", 1000), quality("*", 250), quality("es", 0))
	// Names with capital letters, stars and names that are no tokens.
	checkQualities(t, "EN-Us, GZip;q=0, X*, **", quality("en-us", 1000), quality("gzip", 0), quality("x*", 1000), quality("**", 1000))
	checkQualities(t, "*", quality("*", 1000))
	checkQualities(t, "*;q=0.1, *, a", quality("*", 100), quality("*", 1000), quality("a", 1000))
	checkQualities(t, "a b, a/b, \"a\", \"a\";q=0.5, ;q=0.5, ;, a=1, (a), \xff, grün, text/html;q=0.5, a\"\", \"\"")
	checkQualities(t, forty+", "+forty+"n, "+forty+"n;q=1, "+forty+";q=0", quality(forty, 1000), quality(forty, 0))
	// Blanks around names, around ; and around =.
	checkQualities(t, "\ta\t; \tq\t= \t0.5\t , b ;q=0.5,c; q=0.5,d;q =0.5,e;q= 0.5", quality("a", 500), quality("b", 500), quality("c", 500), quality("d", 500), quality("e", 500))
	checkQualities(t, "a\n;q=0.5, b;\rq=0.5, c;q=0.5\v, d;q=\u00a00.5, e;q=0.5", quality("e", 500))
	// A q in both cases, parameters of other names, and parameters that are none.
	checkQualities(t, "a;q=0.5, b;Q=0.5", quality("a", 500), quality("b", 500))
	checkQualities(t, "a;x=0.5, b;qq=0.5, c;=0.5, d;q, e;, f; , g;0.5, h;q0.5, i;q:0.5, j;q=, k;q==0.5, l;=, m;\"q\"=0.5, n;k=v, o;q=0.5=1, p;\xd1\xa8=0.5")
	// Two parameters and more.
	checkQualities(t, "a;q=0.5;q=0.5, b;q=0.5;x=1, c;x=1;q=0.5, d;q=0.5;, e;;q=0.5, f;;, g; ; , h;q=0.5; , i;q=0.5;q=0.6;q=0.7")
	// A ; within quotes.
	checkQualities(t, "a;q=\"0.5\", b;q=\"0;5\", c;\";q=0.5\", \"d;q=0.5\", \"e;\";q=0.5, f;x=\";\", g", quality("g", 1000))
	checkQualities(t, "a;q=0.5\";\", b\";\"q=0.5, c", quality("c", 1000))
	// A comma in a weight divides the elements, but not within quotes.
	checkQualities(t, "a;q=0,5", quality("a", 0), quality("5", 1000))
	checkQualities(t, "a;q=\"0,5\", b;q=\"0.5, c")
	// The same name twice, in order.
	checkQualities(t, "b;q=0.1, a, B;q=0.9, b", quality("b", 100), quality("a", 1000), quality("b", 900), quality("b", 1000))
	if got := impl.ParseQualities(strings.Repeat("a;q=0.5,;,", 5000)); len(got) != 5000 || got[4999] != quality("a", 500) {
		t.Errorf("ParseQualities of many elements gives %d", len(got))
	}
}

func TestParseQualitiesAgainstAPattern(t *testing.T) {
	check := func(s string) {
		t.Helper()
		want := qualitiesBy(s)
		if got := impl.ParseQualities(s); !slices.Equal(got, want) {
			t.Fatalf("ParseQualities(%q) = %v, want %v", s, got, want)
		}
	}
	textsOf("a;q=1 ", 6, check)
	textsOf("01.5 ", 6, func(s string) { check("a;q=" + s) })
	textsOf(";q= ,\"\\", 5, func(s string) {
		check("A" + s + "0.5")
		check("a;" + s + "1")
		check("a" + s + ";q=0")
	})
	for b := range 256 {
		one := string([]byte{byte(b)})
		for _, s := range []string{one, one + "a", "a" + one, "a" + one + "b", one + ";q=1", "a;" + one + "=1", "a;q=" + one, "a;q=0" + one, "a;q=0." + one, "a;q=0.1" + one, "a;q=0.12" + one, "a;q=1.0" + one, "a" + one + ";q=1", "a;" + one + "q=1", "a;q" + one + "=1", "a;q" + one + "1", "a" + one + "q=1", "a;q=" + one + "1", "*" + one + ";q=0.5"} {
			check(s)
			check("b;q=0.25, " + s + " , c")
		}
	}
	variantsOf("En-us ;Q=0.125, *;q= 1.00,de", check)
	for n := range 60 {
		check(strings.Repeat("a", n) + ";q=0." + strings.Repeat("1", n%5))
	}
	check(manyBytes())
	check(strings.Repeat(";", 5000))
}

func TestQualityOf(t *testing.T) {
	l := []impl.Quality{quality("de", 500), quality("en", 0), quality("*", 250), quality("de", 900), quality("*", 700), quality("EN", 800), quality("", 30)}
	for name, want := range map[string]int{"de": 500, "en": 0, "*": 250, "EN": 800, "": 30, "fr": 250, "DE": 250, "d": 250, "de ": 250, "de-at": 250, "**": 250, "\xff": 250} {
		if got := impl.QualityOf(l, name); got != want {
			t.Errorf("QualityOf(%v, %q) = %d, want %d", l, name, got, want)
		}
	}
	for _, x := range []struct {
		l    []impl.Quality
		name string
		want int
	}{
		// None of both.
		{nil, "de", 0}, {nil, "", 0}, {nil, "*", 0}, {[]impl.Quality{}, "de", 0}, {[]impl.Quality{quality("en", 1000)}, "de", 0}, {[]impl.Quality{quality("en", 1000)}, "*", 0}, {[]impl.Quality{quality("", 1000)}, "de", 0}, {[]impl.Quality{quality("**", 1000)}, "de", 0},
		// The star stands in front, behind or alone, and counts for no name that is there.
		{[]impl.Quality{quality("*", 1000), quality("de", 10)}, "de", 10}, {[]impl.Quality{quality("*", 1000), quality("de", 0)}, "de", 0}, {[]impl.Quality{quality("de", 0), quality("*", 1000)}, "de", 0}, {[]impl.Quality{quality("de", 0), quality("de", 1000)}, "de", 0}, {[]impl.Quality{quality("*", 0), quality("*", 1000)}, "de", 0}, {[]impl.Quality{quality("*", 7)}, "*", 7},
		// Weights as they are.
		{[]impl.Quality{quality("de", -5)}, "de", -5}, {[]impl.Quality{quality("de", math.MaxInt)}, "de", math.MaxInt}, {[]impl.Quality{quality("*", math.MinInt)}, "x", math.MinInt},
	} {
		if got := impl.QualityOf(x.l, x.name); got != x.want {
			t.Errorf("QualityOf(%v, %q) = %d, want %d", x.l, x.name, got, x.want)
		}
	}
}

func TestChooseName(t *testing.T) {
	en, de, fr := "en", "de", "fr"
	for _, x := range []struct {
		names []string
		s     string
		want  string
	}{
		{nil, "", ""}, {nil, "de", ""}, {[]string{}, "*", ""}, {[]string{de}, "", de}, {[]string{de}, "en", de}, {[]string{de}, "de;q=0", de}, {[]string{""}, "*", ""}, {[]string{"", de}, "de", de},
		{[]string{de, en}, "de;q=0.5, en", en}, {[]string{de, en}, "de, en;q=0.5", de}, {[]string{de, en, fr}, "fr", fr}, {[]string{de, en, fr}, "en;q=0.001", en}, {[]string{de, en, fr}, "de;q=0.1, en;q=0.11, fr;q=0.109", en}, {[]string{de, en, fr}, "de;q=0.998, fr;q=0.999, en;q=0.99", fr},
		// Several that are equally good: the first of the names, whatever the order of the elements.
		{[]string{de, en}, "", de}, {[]string{en, de}, "", en}, {[]string{de, en}, "en, de", de}, {[]string{fr, en, de}, "de;q=0.5, en;q=0.5", en}, {[]string{fr, de, en}, "*", fr}, {[]string{de, en}, "en;q=1.0, de;q=1", de}, {[]string{de, en, de}, "de;q=0.3, en;q=0.30", de},
		// Names with weight 0 only.
		{[]string{de, en}, "de;q=0, en;q=0.0", de}, {[]string{en, de}, "*;q=0", en}, {[]string{de, en}, "fr", de}, {[]string{de, en}, "de;q=0", de}, {[]string{de, en}, "de;q=0, en;q=0.001", en}, {[]string{de, en}, "de;q=0, *;q=0.1", en},
		// The star beside others, and the first element of a name.
		{[]string{de, en, fr}, "de;q=0.2, *;q=0.5", en}, {[]string{de, en, fr}, "*;q=0.5, fr;q=0.6", fr}, {[]string{de, en}, "*, de", de}, {[]string{de, en}, "*, de;q=0.9", en}, {[]string{de, en}, "de;q=0.1, en;q=0.5, de", en}, {[]string{de, en}, "*;q=0.1, de;q=0.2, *", de}, {[]string{"*", de}, "*;q=0.5, de", de}, {[]string{"*", de}, "*, de;q=0.5", "*"},
		// Capital letters: elements are read in lower case, and names are compared as they are.
		{[]string{de, en}, "EN, de;q=0.5", en}, {[]string{de, "EN"}, "EN, de;q=0.5", de}, {[]string{"EN", en}, "en", en}, {[]string{"EN", en}, "en;q=0.5, *", "EN"},
		// Elements that are left out.
		{[]string{de, en}, "en;q=2, de;q=0.1", de}, {[]string{de, en}, "en;x=1", de}, {[]string{de, en}, "de;q=0.5;q=0, en;q=0.1", en}, {[]string{de, en}, "\"en\"", de}, {[]string{de, en}, ";,", de},
		{[]string{"\xff", de, ""}, "de", de}, {[]string{de, de}, "de", de},
	} {
		if got := impl.ChooseName(x.names, x.s); got != x.want {
			t.Errorf("ChooseName(%q, %q) = %q, want %q", x.names, x.s, got, x.want)
		}
	}
}

// The name that is chosen is the best one: all short lists of elements, and names in several orders.
func TestTheNameThatIsChosenIsTheBestOne(t *testing.T) {
	parts := []string{"a", "B;q=0.5", "b;q=0.25", "*;q=0.3", "c;q=0", "*", "a;q=0.75", "c;q=9"}
	lists := [][]string{nil, {"a"}, {"a", "b"}, {"b", "a"}, {"a", "b", "c"}, {"c", "b", "a"}, {"d", "b", "e"}, {"c", "d"}, {"*", "b"}, {"b", "b", "a"}}
	textsOf("01234567", 4, func(order string) {
		elements := []string{}
		for _, i := range order {
			elements = append(elements, parts[i-'0'])
		}
		s := strings.Join(elements, ", ")
		l := qualitiesBy(s)
		weights := func(name string) int {
			for _, wanted := range []string{name, "*"} {
				if i := slices.IndexFunc(l, func(q impl.Quality) bool { return q.Name == wanted }); i >= 0 {
					return l[i].Q
				}
			}
			return 0
		}
		for _, names := range lists {
			sorted := slices.Clone(names)
			slices.SortStableFunc(sorted, func(a string, b string) int { return weights(b) - weights(a) })
			want := ""
			if len(sorted) > 0 {
				want = sorted[0]
			}
			if got := impl.ChooseName(names, s); got != want {
				t.Fatalf("ChooseName(%q, %q) = %q, want %q", names, s, got, want)
			}
			for _, name := range names {
				if got := impl.QualityOf(impl.ParseQualities(s), name); got != weights(name) {
					t.Fatalf("QualityOf %q in %q = %d, want %d", name, s, got, weights(name))
				}
			}
		}
	})
}

func TestQualitiesShareNoMemory(t *testing.T) {
	l := []impl.Quality{quality("de", 500), quality("*", 250)}
	checkNewMemory(t, "ParseQualities", l, quality("room", 1), func([]impl.Quality) []impl.Quality {
		return impl.ParseQualities("a;q=0.5, b, *;q=0")
	})
	checkNewMemory(t, "QualityOf", l, quality("room", 1), func(l []impl.Quality) []int {
		return []int{impl.QualityOf(l, "de"), impl.QualityOf(l, "x")}
	})
	checkNewMemory(t, "ChooseName", []string{"de", "en", "fr"}, "room", func(names []string) []string {
		return []string{impl.ChooseName(names, "en, de;q=0.5"), impl.ChooseName(names, "")}
	})
}
