package tests

import (
	"regexp"
	"slices"
	"strings"
	"testing"

	"loop.example/g03012/impl"
)

// valuesBy returns the values of all fields with this name as one list.
func valuesBy(l []impl.Field, name string) (string, bool) {
	values := []string{}
	for _, f := range l {
		if f.Name == name {
			values = append(values, f.Value)
		}
	}
	return strings.Join(values, ", "), len(values) > 0
}

var capital = regexp.MustCompile(`[A-Z]`)

// lowerBy leaves bytes that are no text as they are.
func lowerBy(s string) string {
	return string(capital.ReplaceAllFunc([]byte(s), func(b []byte) []byte { return []byte{b[0] | 0x20} }))
}

func varyBy(l []impl.Field) ([]string, bool) {
	value, _ := valuesBy(l, "vary")
	parts := splitBy(value)
	if slices.Contains(parts, "*") {
		return nil, true
	}
	once := []string{}
	for _, part := range parts {
		if name := lowerBy(part); !slices.Contains(once, name) {
			once = append(once, name)
		}
	}
	return once, false
}

func selectingBy(r impl.Request, name string) string {
	value, _ := valuesBy(r.Fields, name)
	return strings.Join(splitBy(value), ", ")
}

func checkVary(t *testing.T, l []impl.Field, want ...string) {
	t.Helper()
	if got, anyField := impl.VaryOf(l); anyField || !slices.Equal(got, want) {
		t.Errorf("VaryOf(%q) = %q, %v, want %q, false", l, got, anyField, want)
	}
}

func TestVaryOf(t *testing.T) {
	// No field vary, fields of other names, an empty one.
	checkVary(t, nil)
	checkVary(t, pairs("a", "b", "Vary", "c", "vary ", "d", "var", "e", "", "*", "VARY", "*"))
	checkVary(t, pairs("vary", ""))
	checkVary(t, pairs("vary", "", "vary", ""))
	checkVary(t, pairs("vary", "accept"), "accept")
	checkVary(t, pairs("x", "1", "vary", "b, a", "y", "2"), "b", "a")
	// A field that stands several times.
	checkVary(t, pairs("vary", "a", "vary", "b"), "a", "b")
	checkVary(t, pairs("vary", "c, a", "x", "z", "vary", "", "vary", "b, c, d"), "c", "a", "b", "d")
	// Names with capital letters, and names that stand twice.
	checkVary(t, pairs("vary", "Accept-Language, COOKIE"), "accept-language", "cookie")
	checkVary(t, pairs("vary", "A, b", "vary", "a"), "a", "b")
	checkVary(t, pairs("vary", "a, A, a, b, B, A"), "a", "b")
	checkVary(t, pairs("vary", "b, a, c, a, b"), "b", "a", "c")
	checkVary(t, pairs("vary", "\u00dc, \u00fc, \u212a, k"), "\u00dc", "\u00fc", "\u212a", "k")
	// Blanks and tabs between elements, and empty elements.
	checkVary(t, pairs("vary", " \ta ,\tb\t,c\t "), "a", "b", "c")
	checkVary(t, pairs("vary", ",, a,,b ,\t, "), "a", "b")
	checkVary(t, pairs("vary", " , \t,"))
	checkVary(t, pairs("vary", "a b, a  b, a\tb"), "a b", "a  b", "a\tb")
	// A star within a name, or in quotes.
	checkVary(t, pairs("vary", "a*, *a, **, * *, *;q=1"), "a*", "*a", "**", "* *", "*;q=1")
	checkVary(t, pairs("vary", "\"*\", \"a, *\", \"*"), "\"*\"", "\"a, *\"", "\"*")
	// Elements in quotes, and quotes that do not end.
	checkVary(t, pairs("vary", "\"A, B\", \"a, b\", a"), "\"a, b\"", "a")
	checkVary(t, pairs("vary", "\"a", "vary", "b"), "\"a, b")
	checkVary(t, pairs("vary", "a\"\\\",*\", b"), "a\"\\\",*\"", "b")
	checkVary(t, pairs("vary", "\xff, \x00, \xff"), "\xff", "\x00")
	if got, anyField := impl.VaryOf(pairs("vary", strings.Repeat("A, b,c ,", 5000))); anyField || !slices.Equal(got, []string{"a", "b", "c"}) {
		t.Errorf("VaryOf many names = %q, %v", got, anyField)
	}
}

func TestVaryOfAStar(t *testing.T) {
	for _, l := range [][]impl.Field{
		pairs("vary", "*"), pairs("vary", "*, a"), pairs("vary", "a, *"), pairs("vary", "a, *, b"), pairs("vary", "a,*,A"), pairs("vary", "a", "vary", "*"), pairs("vary", "*", "vary", "a"), pairs("vary", "", "x", "y", "vary", "*"), pairs("vary", " \t*\t "), pairs("vary", "**, *"), pairs("vary", "*, *"), pairs("vary", "\"*\", *"), pairs("vary", ",*,"), pairs("vary", "a*, a, *"),
	} {
		if got, anyField := impl.VaryOf(l); len(got) != 0 || !anyField {
			t.Errorf("VaryOf(%q) = %q, %v, want none, true", l, got, anyField)
		}
	}
}

func TestVaryOfAgainstAPattern(t *testing.T) {
	check := func(l []impl.Field) {
		t.Helper()
		want, wantAny := varyBy(l)
		if got, anyField := impl.VaryOf(l); anyField != wantAny || !slices.Equal(got, want) {
			t.Fatalf("VaryOf(%q) = %q, %v, want %q, %v", l, got, anyField, want, wantAny)
		}
	}
	textsOf("aA,* \"", 6, func(s string) { check(pairs("vary", s)) })
	textsOf("aB,*\t\"\\", 4, func(s string) {
		check(pairs("vary", s, "x", "*", "vary", "b, A"))
		check(pairs("vary", "A", "vary", s))
	})
	variantsOf("Accept , a\t,*", func(s string) { check(pairs("vary", s)) })
	for b := range 256 {
		one := string([]byte{byte(b)})
		check(pairs("vary", one+"a, "+one+", a"+one+", "+one))
		check(pairs(one+"vary", "a", "vary"+one, "*"))
	}
}

func checkSelecting(t *testing.T, r impl.Request, names []string, want ...string) {
	t.Helper()
	got := impl.SelectingOf(r, names)
	if !slices.Equal(got, pairs(want...)) {
		t.Errorf("SelectingOf(%q, %q) = %q, want %q", r.Fields, names, got, pairs(want...))
	}
	if !impl.Agrees(r, got) {
		t.Errorf("%q does not agree with its selecting fields %q", r.Fields, got)
	}
}

func TestSelectingOf(t *testing.T) {
	r := request("GET", "h", "/", "a", "x ,y", "b", "", "a", "z", "c", " \tp\t,,q, ", "d", "\"x ,y\",\tw", "E", "f", "g", "\"k", "g", "l", "i", "a, a")
	// No names, names that the request has and names that it has not.
	checkSelecting(t, r, nil)
	checkSelecting(t, r, []string{"a"}, "a", "x, y, z")
	checkSelecting(t, r, []string{"a", "z"}, "a", "x, y, z", "z", "")
	checkSelecting(t, r, []string{"z"}, "z", "")
	checkSelecting(t, r, []string{"c", "b", "a"}, "c", "p, q", "b", "", "a", "x, y, z")
	checkSelecting(t, impl.Request{}, []string{"a", "b"}, "a", "", "b", "")
	// Names that stand twice in the list.
	checkSelecting(t, r, []string{"a", "b", "a", "a"}, "a", "x, y, z", "b", "", "a", "x, y, z", "a", "x, y, z")
	// Names are compared as they are.
	checkSelecting(t, r, []string{"A", "E", "e", " a", "", "*"}, "A", "", "E", "f", "e", "", " a", "", "", "", "*", "")
	// Elements in quotes, quotes that do not end, and elements that stand twice.
	checkSelecting(t, r, []string{"d", "g", "i"}, "d", "\"x ,y\", w", "g", "\"k, l", "i", "a, a")
	// Only the fields of the request count.
	checkSelecting(t, request("GET", "h", "/", "host", "i"), []string{"host", "method", "target"}, "host", "i", "method", "", "target", "")
	checkSelecting(t, request("get", "", "\xff", "\xff", "\x00"), []string{"\xff"}, "\xff", "\x00")
}

func TestAgrees(t *testing.T) {
	r := request("GET", "h", "/", "a", "x ,y", "b", "", "a", "z")
	for _, x := range []struct {
		l    []impl.Field
		want bool
	}{
		{nil, true}, {pairs("a", "x, y, z"), true}, {pairs("b", ""), true}, {pairs("c", ""), true}, {pairs("c", "", "b", "", "a", "x, y, z", "A", ""), true}, {pairs("a", "x, y, z", "a", "x, y, z"), true},
		// Values that differ only by blanks, by their order or by one element.
		{pairs("a", "x,y,z"), false}, {pairs("a", "x ,y, z"), false}, {pairs("a", "x,  y, z"), false}, {pairs("a", "x, y,\tz"), false}, {pairs("a", " x, y, z"), false}, {pairs("a", "x, y, z "), false}, {pairs("a", "x, z, y"), false}, {pairs("a", "x, y"), false}, {pairs("a", "x, y, z, z"), false}, {pairs("a", "X, y, z"), false}, {pairs("a", ""), false}, {pairs("b", " "), false}, {pairs("b", ","), false}, {pairs("c", "x"), false}, {pairs("A", "x, y, z"), false},
		// One field that does not agree, in each place.
		{pairs("a", "x", "b", "", "c", ""), false}, {pairs("b", "", "a", "x", "c", ""), false}, {pairs("b", "", "c", "", "a", "x"), false}, {pairs("a", "x, y, z", "a", "x"), false},
	} {
		if got := impl.Agrees(r, x.l); got != x.want {
			t.Errorf("Agrees(%q, %q) = %v", r.Fields, x.l, got)
		}
	}
	if !impl.Agrees(impl.Request{}, nil) || !impl.Agrees(impl.Request{}, pairs("a", "")) || impl.Agrees(impl.Request{}, pairs("a", "1")) {
		t.Error("Agrees of a request without fields")
	}
}

// A request agrees with its own selecting fields, and with those of another request just if their elements are the same.
func TestARequestAgreesWithItsOwnSelectingFields(t *testing.T) {
	requests := []impl.Request{}
	for _, values := range [][]string{nil, {""}, {"x"}, {"X"}, {"x,y"}, {"x", "y"}, {"x ,\ty,"}, {"y, x"}, {"\"x,y\""}, {"\"x", "y\""}, {"x y"}, {" "}, {"x", "", "y"}, {"\"x, y"}} {
		r := impl.Request{}
		for _, value := range values {
			r.Fields = append(r.Fields, pairs("a", value, "b", "1")...)
		}
		requests = append(requests, r)
	}
	for _, names := range [][]string{nil, {"a"}, {"b"}, {"a", "b", "c"}, {"a", "a"}, {"A"}} {
		for _, r := range requests {
			l := impl.SelectingOf(r, names)
			for i, name := range names {
				if want := selectingBy(r, name); l[i].Name != name || l[i].Value != want {
					t.Errorf("SelectingOf(%q, %q)[%d] = %q, want %q", r.Fields, names, i, l[i], want)
				}
			}
			for _, other := range requests {
				want := !slices.ContainsFunc(names, func(name string) bool { return selectingBy(r, name) != selectingBy(other, name) })
				if got := impl.Agrees(other, l); got != want || len(l) != len(names) {
					t.Errorf("Agrees(%q, %q) = %v, want %v", other.Fields, l, got, want)
				}
			}
		}
	}
	textsOf("a, \"\\\t", 6, func(s string) {
		r := request("GET", "h", "/", "n", s)
		l := impl.SelectingOf(r, []string{"n", "m"})
		if len(l) != 2 || l[0].Value != selectingBy(r, "n") || !impl.Agrees(r, l) || impl.Agrees(r, pairs("n", l[0].Value+"x")) {
			t.Fatalf("the selecting fields of %q are %q", s, l)
		}
		// What is stored is written in one way: another request with just this value has it, too.
		if !impl.Agrees(impl.Request{Fields: l}, l) {
			t.Fatalf("%q does not agree with itself", l)
		}
	})
}

func TestSelectingSharesNoMemory(t *testing.T) {
	room := impl.Field{Name: "vary", Value: "room"}
	for _, l := range [][]impl.Field{pairs("vary", "a, b", "a", "1"), pairs("vary", "*"), nil} {
		checkNewMemory(t, "VaryOf", l, room, func(l []impl.Field) []string {
			got, _ := impl.VaryOf(l)
			return got
		})
		checkNewMemory(t, "SelectingOf", l, room, func(l []impl.Field) []impl.Field {
			return impl.SelectingOf(impl.Request{Fields: l}, []string{"a", "vary", "c"})
		})
		checkNewMemory(t, "Agrees", l, room, func(l []impl.Field) []bool {
			return []bool{impl.Agrees(impl.Request{Fields: l}, pairs("a", "1")), impl.Agrees(impl.Request{}, l)}
		})
	}
	checkNewMemory(t, "SelectingOf", []string{"a", "b"}, "room", func(names []string) []impl.Field {
		return impl.SelectingOf(request("GET", "h", "/", "a", "1"), names)
	})
}
