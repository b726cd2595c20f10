package tests

import (
	"regexp"
	"slices"
	"strings"
	"testing"

	"loop.example/g03012/impl"
)

// fieldLine is the rule of a line as a pattern, but for the length of the value.
var fieldLine = regexp.MustCompile("\\A([a-zA-Z0-9!#$%&'*+.^_|~`-]{1,40}):[\t ]*((?:[!-~](?:[\t -~]*[!-~])?)?)[\t ]*\r\n")

func parsedBy(s string) ([]impl.Field, bool) {
	l := []impl.Field{}
	for s != "" {
		m := fieldLine.FindStringSubmatch(s)
		if m == nil || len(m[2]) > 200 || len(l) == 24 {
			return nil, false
		}
		l = append(l, impl.Field{Name: strings.ToLower(m[1]), Value: m[2]})
		s = s[len(m[0]):]
	}
	return l, true
}

// pairs makes fields of names and values that follow each other.
func pairs(texts ...string) []impl.Field {
	l := []impl.Field{}
	for i := 0; i+1 < len(texts); i += 2 {
		l = append(l, impl.Field{Name: texts[i], Value: texts[i+1]})
	}
	return l
}

// manyFields makes n fields with names of their own.
func manyFields(n int) []impl.Field {
	l := []impl.Field{}
	for i := range n {
		l = append(l, impl.Field{Name: "x-" + string(rune('a'+i%26)) + strings.Repeat("1", i/26), Value: strings.Repeat("v", i%5)})
	}
	return l
}

// fieldLists calls f with all lists of fields with few names and values, up to a length.
func fieldLists(length int, f func([]impl.Field)) {
	choices := pairs("a", "1", "a", "2", "b", "1", "A", "", "", "3")
	var grow func([]impl.Field)
	grow = func(l []impl.Field) {
		f(l)
		for i := 0; i < len(choices) && len(l) < length; i++ {
			grow(append(slices.Clone(l), choices[i]))
		}
	}
	grow(nil)
}

func checkFields(t *testing.T, what string, got []impl.Field, want []impl.Field) {
	t.Helper()
	if !slices.Equal(got, want) {
		t.Errorf("%s = %q, want %q", what, got, want)
	}
}

func TestMaxFields(t *testing.T) {
	if impl.MaxFields != 24 {
		t.Error(impl.MaxFields)
	}
}

func TestAreFields(t *testing.T) {
	long := strings.Repeat("v", 200)
	for _, x := range []struct {
		l    []impl.Field
		want bool
	}{
		{nil, true}, {[]impl.Field{}, true}, {manyFields(1), true}, {manyFields(23), true}, {manyFields(24), true}, {manyFields(25), false}, {manyFields(26), false}, {manyFields(500), false},
		{pairs("a", "1"), true}, {pairs("a", ""), true}, {pairs("a", "1", "a", "1"), true}, {pairs("cache-control", "max-age=5, public", "x.1_~", "\"q\""), true},
		{pairs("A", "1"), false}, {pairs("aB", "1"), false}, {pairs("Cache-Control", "x"), false}, {pairs("", "1"), false}, {pairs("", ""), false}, {pairs("a b", "1"), false}, {pairs("a:", "1"), false}, {pairs(" a", "1"), false}, {pairs("grün", "1"), false}, {pairs("a\r\n", "1"), false},
		{pairs(strings.Repeat("n", 40), "1"), true}, {pairs(strings.Repeat("n", 41), "1"), false}, {pairs("!#$%&'*+-.^_|~`", "1"), true},
		{pairs("a", long), true}, {pairs("a", long+"v"), false}, {pairs("a", long[:199]+"\t"), false}, {pairs("a", long[:199]+" "), false}, {pairs("a", " "+long[:199]), false}, {pairs("a", long[:198]+"\tv"), true}, {pairs("a", long+long), false},
		{pairs("a", "x\ty"), true}, {pairs("a", "x y"), true}, {pairs("a", " x"), false}, {pairs("a", "x "), false}, {pairs("a", "\tx"), false}, {pairs("a", "x\t"), false}, {pairs("a", " "), false}, {pairs("a", "\t"), false},
		{pairs("a", "x\r\n"), false}, {pairs("a", "x\ny"), false}, {pairs("a", "x\ry"), false}, {pairs("a", "\x00"), false}, {pairs("a", "x\x1fy"), false}, {pairs("a", "x\x7fy"), false}, {pairs("a", "x\x80y"), false}, {pairs("a", "grün"), false}, {pairs("a", "~!"), true}, {pairs("a", ":"), true},
		// One that is wrong, in each place.
		{pairs("A", "1", "b", "2", "c", "3"), false}, {pairs("a", "1", "B", "2", "c", "3"), false}, {pairs("a", "1", "b", "2", "C", "3"), false}, {pairs("a", "1 ", "b", "2"), false}, {pairs("a", "1", "b", " 2"), false},
	} {
		if got := impl.AreFields(x.l); got != x.want {
			t.Errorf("AreFields(%q) = %v, want %v", x.l, got, x.want)
		}
	}
}

func TestFieldsAtEveryByte(t *testing.T) {
	for b := range 256 {
		one := string([]byte{byte(b)})
		name := strings.Contains(tokenBytes, one) && (b < 'A' || b > 'Z')
		inside := 32 <= b && b <= 126 || b == '\t'
		outside := 33 <= b && b <= 126
		for _, x := range []struct {
			l    []impl.Field
			want bool
		}{
			{pairs(one, "v"), name}, {pairs("a"+one, "v"), name}, {pairs(one+"a", "v"), name}, {pairs("a"+one+"a", "v"), name},
			{pairs("a", "x"+one+"y"), inside}, {pairs("a", one), outside}, {pairs("a", "x"+one), outside}, {pairs("a", one+"x"), outside}, {pairs("b", "", "a", "x"+one+"y"), inside},
		} {
			if got := impl.AreFields(x.l); got != x.want {
				t.Errorf("AreFields(%q) = %v, want %v", x.l, got, x.want)
			}
		}
	}
}

func TestGetField(t *testing.T) {
	l := pairs("a", "1", "b", "x", "a", "2", "c", "", "a", "1, 5", "d", "", "d", "", "A", "7", "", "e")
	for name, want := range map[string]string{"a": "1, 2, 1, 5", "b": "x", "c": "", "d": ", ", "A": "7", "": "e"} {
		if got, ok := impl.GetField(l, name); got != want || !ok {
			t.Errorf("GetField(%q) = %q, %v, want %q, true", name, got, ok, want)
		}
	}
	for _, name := range []string{"B", "aa", "a ", " a", "e", "1", "x", "\x00"} {
		if got, ok := impl.GetField(l, name); got != "" || ok {
			t.Errorf("GetField(%q) = %q, %v, want none", name, got, ok)
		}
	}
	for _, name := range []string{"", "a"} {
		if got, ok := impl.GetField(nil, name); got != "" || ok {
			t.Errorf("GetField(nil, %q) = %q, %v, want none", name, got, ok)
		}
	}
	if got, ok := impl.GetField(manyFields(500), "x-c1"); got != "vvv" || !ok {
		t.Errorf("GetField of many fields = %q, %v", got, ok)
	}
}

func TestDropField(t *testing.T) {
	l := pairs("a", "1", "b", "x", "a", "2", "c", "", "A", "7", "", "e")
	for name, want := range map[string][]impl.Field{
		"a": pairs("b", "x", "c", "", "A", "7", "", "e"), "b": pairs("a", "1", "a", "2", "c", "", "A", "7", "", "e"), "c": pairs("a", "1", "b", "x", "a", "2", "A", "7", "", "e"),
		"A": pairs("a", "1", "b", "x", "a", "2", "c", "", "", "e"), "": pairs("a", "1", "b", "x", "a", "2", "c", "", "A", "7"), "x": l, "B": l,
	} {
		checkFields(t, "DropField "+name, impl.DropField(l, name), want)
	}
	checkFields(t, "DropField of none", impl.DropField(nil, "a"), nil)
	checkFields(t, "DropField of all", impl.DropField(pairs("a", "1", "a", "2"), "a"), nil)
}

func TestSetField(t *testing.T) {
	l := pairs("b", "x", "a", "1", "c", "", "a", "2", "a", "3", "A", "7")
	for _, x := range []struct {
		name, value string
		want        []impl.Field
	}{
		{"a", "9", pairs("b", "x", "a", "9", "c", "", "A", "7")}, {"a", "", pairs("b", "x", "a", "", "c", "", "A", "7")}, {"a", "3", pairs("b", "x", "a", "3", "c", "", "A", "7")}, {"a", "1", pairs("b", "x", "a", "1", "c", "", "A", "7")},
		{"b", "y", pairs("b", "y", "a", "1", "c", "", "a", "2", "a", "3", "A", "7")}, {"A", "8", pairs("b", "x", "a", "1", "c", "", "a", "2", "a", "3", "A", "8")},
		{"d", "4", pairs("b", "x", "a", "1", "c", "", "a", "2", "a", "3", "A", "7", "d", "4")}, {"d", "", pairs("b", "x", "a", "1", "c", "", "a", "2", "a", "3", "A", "7", "d", "")}, {"", " \n", pairs("b", "x", "a", "1", "c", "", "a", "2", "a", "3", "A", "7", "", " \n")},
	} {
		checkFields(t, "SetField "+x.name, impl.SetField(l, x.name, x.value), x.want)
	}
	checkFields(t, "SetField of none", impl.SetField(nil, "a", "1"), pairs("a", "1"))
	checkFields(t, "SetField of many", impl.SetField(manyFields(24), "z", "1"), append(manyFields(24), pairs("z", "1")...))
}

func TestSameFields(t *testing.T) {
	l := pairs("a", "1", "b", "x", "a", "2")
	for _, x := range []struct {
		a, b []impl.Field
		want bool
	}{
		{nil, nil, true}, {nil, []impl.Field{}, true}, {l, slices.Clone(l), true}, {l, l, true}, {pairs("", ""), pairs("", ""), true},
		{l, nil, false}, {nil, l, false}, {l, l[:2], false}, {l[:2], l, false}, {l, l[1:], false}, {nil, pairs("", ""), false},
		{l, pairs("a", "2", "b", "x", "a", "1"), false}, {l, pairs("b", "x", "a", "1", "a", "2"), false}, {l, pairs("a", "1", "a", "2", "b", "x"), false},
		{l, pairs("A", "1", "b", "x", "a", "2"), false}, {l, pairs("a", "1", "b", "X", "a", "2"), false}, {l, pairs("a", "1", "b", "x", "a", "2 "), false}, {l, pairs("a", "1", "b", "x", "c", "2"), false},
		{pairs("a", "1"), pairs("1", "a"), false}, {pairs("ab", "c"), pairs("a", "bc"), false}, {pairs("a: b", "c"), pairs("a", "b: c"), false}, {pairs("a", "1\r\nb: 2"), pairs("a", "1", "b", "2"), false}, {pairs("a", "1", "a", "1"), pairs("a", "1"), false},
	} {
		if got := impl.SameFields(x.a, x.b); got != x.want {
			t.Errorf("SameFields(%q, %q) = %v, want %v", x.a, x.b, got, x.want)
		}
	}
}

func TestMergeFields(t *testing.T) {
	l := pairs("a", "1", "b", "x", "a", "2", "c", "", "b", "y")
	for _, x := range []struct{ l, newer, want []impl.Field }{
		{nil, nil, nil}, {l, nil, l}, {nil, l, l}, {l, l, l}, {l, pairs("d", "4"), append(slices.Clone(l), pairs("d", "4")...)},
		{l, pairs("a", "9"), pairs("b", "x", "c", "", "b", "y", "a", "9")}, {l, pairs("b", "8", "a", "9", "b", "7"), pairs("c", "", "b", "8", "a", "9", "b", "7")},
		{l, pairs("c", ""), pairs("a", "1", "b", "x", "a", "2", "b", "y", "c", "")}, {l, pairs("A", "9"), append(slices.Clone(l), pairs("A", "9")...)}, {pairs("", "1", "a", "2"), pairs("", "3"), pairs("a", "2", "", "3")},
		{l, pairs("d", "1", "d", "1", "a", "1"), pairs("b", "x", "c", "", "b", "y", "d", "1", "d", "1", "a", "1")},
		{manyFields(24), manyFields(24)[12:], manyFields(24)}, {manyFields(12), manyFields(24)[12:], manyFields(24)},
	} {
		checkFields(t, "MergeFields", impl.MergeFields(x.l, x.newer), x.want)
	}
}

// Fields that are set are found: all short lists, against the plainest way to say what is asked.
func TestFieldsThatAreSetAreFound(t *testing.T) {
	names := []string{"a", "b", "c", "A", ""}
	fieldLists(4, func(l []impl.Field) {
		for _, name := range names {
			var values []string
			var others []impl.Field
			place := -1
			for _, f := range l {
				if f.Name != name {
					others = append(others, f)
					continue
				}
				if place < 0 {
					place = len(others)
				}
				values = append(values, f.Value)
			}
			if got, ok := impl.GetField(l, name); got != strings.Join(values, ", ") || ok != (place >= 0) {
				t.Fatalf("GetField(%q, %q) = %q, %v", l, name, got, ok)
			}
			if got := impl.DropField(l, name); !slices.Equal(got, others) {
				t.Fatalf("DropField(%q, %q) = %q", l, name, got)
			}
			if place < 0 {
				place = len(others)
			}
			set := impl.SetField(l, name, "n, m")
			if !slices.Equal(set, slices.Insert(slices.Clone(others), place, impl.Field{Name: name, Value: "n, m"})) {
				t.Fatalf("SetField(%q, %q) = %q", l, name, set)
			}
			if got, ok := impl.GetField(set, name); got != "n, m" || !ok {
				t.Fatalf("GetField(%q, %q) = %q, %v behind SetField", set, name, got, ok)
			}
		}
	})
}

func TestMergedFieldsAgainstDroppedOnes(t *testing.T) {
	fieldLists(3, func(l []impl.Field) {
		fieldLists(2, func(newer []impl.Field) {
			want := slices.Clone(l)
			for _, f := range newer {
				want = slices.DeleteFunc(want, func(x impl.Field) bool { return x.Name == f.Name })
			}
			want = append(want, newer...)
			if got := impl.MergeFields(l, newer); !slices.Equal(got, want) {
				t.Fatalf("MergeFields(%q, %q) = %q, want %q", l, newer, got, want)
			}
			if got := impl.SameFields(l, newer); got != slices.Equal(l, newer) {
				t.Fatalf("SameFields(%q, %q) = %v", l, newer, got)
			}
		})
	})
}

func TestFormatFields(t *testing.T) {
	for _, x := range []struct {
		l    []impl.Field
		want string
	}{
		{nil, ""}, {[]impl.Field{}, ""}, {pairs("a", "1"), "a: 1\r\n"}, {pairs("a", ""), "a: \r\n"}, {pairs("a", "v", "b", ""), "a: v\r\nb: \r\n"}, {pairs("b", "2, 3", "a", "1", "b", "4"), "b: 2, 3\r\na: 1\r\nb: 4\r\n"},
		{pairs("", ""), ": \r\n"}, {pairs("A b", " x\n"), "A b:  x\n\r\n"}, {pairs("a", "\xff:"), "a: \xff:\r\n"},
	} {
		if got := impl.FormatFields(x.l); got != x.want {
			t.Errorf("FormatFields(%q) = %q, want %q", x.l, got, x.want)
		}
	}
}

func TestParseFields(t *testing.T) {
	forty := strings.Repeat("N", 40)
	long := strings.Repeat("v", 200)
	for s, want := range map[string][]impl.Field{
		"": {}, "a: 1\r\n": pairs("a", "1"), "a:1\r\n": pairs("a", "1"), "a:\r\n": pairs("a", ""), "a: \t \r\n": pairs("a", ""), "A:  v \r\nb:\r\n": pairs("a", "v", "b", ""), "a:\t1 2\t3\t\r\n": pairs("a", "1 2\t3"),
		"Cache-Control: Max-Age=5\r\n": pairs("cache-control", "Max-Age=5"), "aBc: D\r\nAbC: E\r\n": pairs("abc", "D", "abc", "E"), "b: 1\r\na: 2\r\nb: 1\r\n": pairs("b", "1", "a", "2", "b", "1"),
		"a: b:c\r\n": pairs("a", "b:c"), "a::\r\n": pairs("a", ":"), "a: : :\r\n": pairs("a", ": :"), "date: Sun, 06 Nov 1994 08:49:37 GMT\r\n": pairs("date", "Sun, 06 Nov 1994 08:49:37 GMT"),
		forty + ":" + long + "\r\n": pairs(strings.ToLower(forty), long), "a:" + strings.Repeat(" ", 300) + long + strings.Repeat("\t", 300) + "\r\n": pairs("a", long), "!#$%&'*+-.^_|~`: ~\r\n": pairs("!#$%&'*+-.^_|~`", "~"),
	} {
		if got, ok := impl.ParseFields(s); !slices.Equal(got, want) || !ok {
			t.Errorf("ParseFields(%q) = %q, %v, want %q, true", s, got, ok, want)
		}
	}
}

func TestParseFieldsRejects(t *testing.T) {
	for _, s := range []string{
		// Lines that do not end.
		"a: 1", "a: 1\r", "a: 1\n", "a: 1\n\r", "a: 1\r\nb: 2", "a: 1\r\nb: 2\n", "a: 1\r\nb: 2\r", "a: 1\nb: 2\r\n", "a: 1\rb: 2\r\n", "a: 1\r\r\n", "a: 1\r\n\r", "a: 1\r\n\n", "a: 1\r\n ", "\n", "\r", "a",
		// Lines without a colon.
		"\r\n", "a\r\n", "a 1\r\n", "a; 1\r\n", "a: 1\r\n\r\n", "\r\na: 1\r\n", "a: 1\r\nb\r\n", "a: 1\r\n\r\nb: 2\r\n", "a=1\r\nb: 2\r\n",
		// Names that are none.
		": 1\r\n", ":\r\n", " : 1\r\n", "a b: c\r\n", " a: 1\r\n", "a : 1\r\n", "a\t: 1\r\n", "\ta: 1\r\n", "(a): 1\r\n", "grün: 1\r\n", "A\xff: 1\r\n", "\x00a: 1\r\n", strings.Repeat("n", 41) + ": 1\r\n", "a: 1\r\n b: 2\r\n", "\na: 1\r\n", "\u212a: 1\r\n",
		// Values that are none.
		"a: \x00\r\n", "a: x\x1fy\r\n", "a: \x7f\r\n", "a: \xff\r\n", "a: grün\r\n", "a: x\ny\r\n", "a: x\ry\r\n", "a: \v\r\n", "a: " + strings.Repeat("v", 201) + "\r\n", "a:" + strings.Repeat("v", 201) + "\r\n", "b: 1\r\na: x\x01\r\nc: 2\r\n",
		impl.FormatFields(manyFields(25)), impl.FormatFields(manyFields(2000)), strings.Repeat("a: 1\r\n", 25), strings.Repeat("\r\n", 5000), strings.Repeat("a", 5000),
	} {
		if got, ok := impl.ParseFields(s); len(got) != 0 || ok {
			t.Errorf("ParseFields(%q) = %q, %v, want none", s, got, ok)
		}
	}
}

func sameLines(t *testing.T, s string) {
	t.Helper()
	want, wantOK := parsedBy(s)
	if got, ok := impl.ParseFields(s); !slices.Equal(got, want) || ok != wantOK {
		t.Fatalf("ParseFields(%q) = %q, %v, want %q, %v", s, got, ok, want, wantOK)
	}
}

func TestParseFieldsAgainstAPattern(t *testing.T) {
	textsOf("aB: \t\r\n", 6, func(s string) {
		sameLines(t, s)
		sameLines(t, "a:"+s)
		sameLines(t, "A:x\r\n"+s+"\r\n")
	})
	s := "Age: 5\r\nvary:Accept, Cookie\t\r\nx-A:\r\n"
	for i := range len(s) + 1 {
		sameLines(t, s[:i])
		sameLines(t, s[i:])
		for b := range 256 {
			one := string([]byte{byte(b)})
			sameLines(t, s[:i]+one+s[i:])
			if i < len(s) {
				sameLines(t, s[:i]+one+s[i+1:])
				sameLines(t, s[:i]+s[i+1:])
			}
		}
	}
	for n := range 30 {
		sameLines(t, strings.Repeat("a: 1\r\n", n))
		sameLines(t, "a:"+strings.Repeat("v", 190+n)+"\r\n")
		sameLines(t, strings.Repeat("n", 25+n)+":\r\n")
	}
}

// Field lines are read back.
func TestFieldLinesAreReadBack(t *testing.T) {
	check := func(l []impl.Field) {
		t.Helper()
		s := impl.FormatFields(l)
		got, ok := impl.ParseFields(s)
		if ok != impl.AreFields(l) || ok && !impl.SameFields(got, l) || ok && impl.FormatFields(got) != s || !ok && len(got) != 0 {
			t.Fatalf("ParseFields(%q) = %q, %v, want %q", s, got, ok, l)
		}
	}
	for n := range 28 {
		check(manyFields(n))
	}
	for b := 33; b < 127; b++ {
		one := string(rune(b))
		check(pairs("a", one, "b", one+" \t"+one, "c", one+one))
		if strings.Contains(tokenBytes, one) && (b < 'A' || b > 'Z') {
			check(pairs(one, "1", one+"x"+one, ""))
		}
	}
	check(pairs(strings.Repeat("n", 40), strings.Repeat("v", 200)))
	check(pairs("a", strings.Repeat("\"\\, ", 50)+"x"))
	check(pairs("a", "", "a", "", "a", ""))
}

// spare returns the fields as a slice with room behind it, and the whole of its memory.
func spare(l []impl.Field) ([]impl.Field, []impl.Field) {
	whole := append(slices.Clone(l), pairs("s1", "t1", "s2", "t2", "s3", "t3")...)
	return whole[:len(l)], whole
}

func TestFieldsShareNoMemory(t *testing.T) {
	l, wholeL := spare(pairs("a", "1", "b", "2", "a", "3"))
	n, wholeN := spare(pairs("b", "9", "c", "8"))
	keptL, keptN := slices.Clone(wholeL), slices.Clone(wholeN)
	calls := map[string]func() []impl.Field{
		"DropField":       func() []impl.Field { return impl.DropField(l, "b") },
		"DropField none":  func() []impl.Field { return impl.DropField(l, "z") },
		"DropField first": func() []impl.Field { return impl.DropField(l, "a") },
		"SetField":        func() []impl.Field { return impl.SetField(l, "a", "7") },
		"SetField end":    func() []impl.Field { return impl.SetField(l, "z", "7") },
		"SetField same":   func() []impl.Field { return impl.SetField(l, "b", "2") },
		"MergeFields":     func() []impl.Field { return impl.MergeFields(l, n) },
		"MergeFields l":   func() []impl.Field { return impl.MergeFields(l, nil) },
		"MergeFields n":   func() []impl.Field { return impl.MergeFields(nil, n) },
		"MergeFields all": func() []impl.Field { return impl.MergeFields(l, l) },
		"ParseFields": func() []impl.Field {
			got, _ := impl.ParseFields("a: 1\r\nb: 2\r\n")
			return got
		},
	}
	for what, call := range calls {
		first, second := call(), call()
		kept := slices.Clone(second)
		// Write over all that belongs to the first result, also behind its end.
		first = first[:cap(first)]
		for i := range first {
			first[i] = impl.Field{Name: "w", Value: "w"}
		}
		checkFields(t, what+": its first argument", wholeL, keptL)
		checkFields(t, what+": its second argument", wholeN, keptN)
		checkFields(t, what+": another result", second, kept)
	}
	impl.AreFields(l)
	impl.GetField(l, "a")
	impl.SameFields(l, n)
	impl.FormatFields(l)
	checkFields(t, "an argument", wholeL, keptL)
	checkFields(t, "an argument", wholeN, keptN)
}
