package tests

import (
	"math"
	"reflect"
	"slices"
	"strconv"
	"strings"
	"testing"

	"loop.example/g03012/impl"
)

// remake makes each list within a value anew, from the outside to the inside.
func remake(v reflect.Value, list func(reflect.Value) reflect.Value) {
	switch v.Kind() {
	case reflect.Struct:
		for i := range v.NumField() {
			remake(v.Field(i), list)
		}
	case reflect.Slice:
		v.Set(list(v))
		for i := range v.Len() {
			remake(v.Index(i), list)
		}
	case reflect.Interface:
		if !v.IsNil() {
			inner := reflect.New(v.Elem().Type()).Elem()
			inner.Set(v.Elem())
			remake(inner, list)
			v.Set(inner)
		}
	}
}

func remade[T any](x T, list func(reflect.Value) reflect.Value) T {
	remake(reflect.ValueOf(&x).Elem(), list)
	return x
}

// copied returns a value with memory of its own, in which empty lists are nil.
func copied[T any](x T) T {
	return remade(x, func(l reflect.Value) reflect.Value {
		return reflect.AppendSlice(reflect.Zero(l.Type()), l)
	})
}

// stretchedOut is the same, but its lists also have what stands in the room behind them.
func stretchedOut[T any](x T) T {
	return remade(x, func(l reflect.Value) reflect.Value {
		return reflect.AppendSlice(reflect.Zero(l.Type()), l.Slice(0, l.Cap()))
	})
}

// roomy returns a copy in which something stands in the room behind each list.
func roomy[T any](x T) T {
	return remade(x, func(l reflect.Value) reflect.Value {
		whole := reflect.MakeSlice(l.Type(), l.Len()+2, l.Len()+2)
		reflect.Copy(whole, l)
		fillWithNoise(whole.Index(l.Len()))
		fillWithNoise(whole.Index(l.Len() + 1))
		return whole.Slice(0, l.Len())
	})
}

func fillWithNoise(v reflect.Value) {
	switch v.Kind() {
	case reflect.Struct:
		for i := range v.NumField() {
			fillWithNoise(v.Field(i))
		}
	case reflect.Int:
		v.SetInt(77)
	case reflect.String:
		v.SetString("room")
	case reflect.Bool:
		v.SetBool(true)
	}
}

// overwrite clears all memory of the lists within a value, with the room behind them.
func overwrite(v reflect.Value) {
	switch v.Kind() {
	case reflect.Struct:
		for i := range v.NumField() {
			overwrite(v.Field(i))
		}
	case reflect.Slice:
		whole := v.Slice(0, v.Cap())
		for i := range whole.Len() {
			overwrite(whole.Index(i))
			whole.Index(i).SetZero()
		}
	case reflect.Interface:
		overwrite(v.Elem())
	}
}

// memoryOf returns where the lists within a value begin and end.
func memoryOf(v reflect.Value) [][2]uintptr {
	l := [][2]uintptr{}
	switch v.Kind() {
	case reflect.Struct:
		for i := range v.NumField() {
			l = append(l, memoryOf(v.Field(i))...)
		}
	case reflect.Slice:
		if v.Cap() > 0 {
			l = append(l, [2]uintptr{v.Pointer(), v.Pointer() + uintptr(v.Cap())*v.Type().Elem().Size()})
		}
		for i := range v.Len() {
			l = append(l, memoryOf(v.Index(i))...)
		}
	case reflect.Interface:
		l = append(l, memoryOf(v.Elem())...)
	}
	return l
}

// alike takes no list and an empty one for the same.
func alike(a any, b any) bool {
	return reflect.DeepEqual(copied(a), copied(b))
}

// checkApart looks whether f leaves its argument as it is, and whether the lists of its results have memory of their own.
func checkApart[A any](t *testing.T, what string, argument A, f func(A) []any) {
	t.Helper()
	given := roomy(argument)
	kept := stretchedOut(given)
	first, second := f(given), f(given)
	result := copied(second)
	memory := memoryOf(reflect.ValueOf(first))
	slices.SortFunc(memory, func(a [2]uintptr, b [2]uintptr) int { return int(a[0]) - int(b[0]) })
	for i, m := range memory {
		if i > 0 && m[0] < memory[i-1][1] {
			t.Errorf("lists of one result of %s share memory", what)
		}
	}
	if !reflect.DeepEqual(stretchedOut(given), kept) {
		t.Errorf("%s changes its argument", what)
	}
	overwrite(reflect.ValueOf(first))
	if !reflect.DeepEqual(stretchedOut(given), kept) {
		t.Errorf("%s shares memory with its argument", what)
	}
	if !reflect.DeepEqual(copied(second), result) {
		t.Errorf("%s shares memory with another result", what)
	}
}

// TestTheCheckOfMemory lets the check find what it is for.
func TestTheCheckOfMemory(t *testing.T) {
	for what, f := range map[string]func(impl.Entry) []any{
		"keeps a list":              func(e impl.Entry) []any { return []any{e} },
		"keeps an inner list":       func(e impl.Entry) []any { x := copied(e); x.Pieces = e.Pieces[:1]; return []any{x, true} },
		"writes":                    func(e impl.Entry) []any { e.Select[0].Name = "x"; return nil },
		"writes behind":             func(e impl.Entry) []any { _ = append(e.Head.Fields, impl.Field{}); return nil },
		"returns one list twice":    func(e impl.Entry) []any { x := copied(e.Select); return []any{x, x[1:]} },
		"returns one list each way": func(e impl.Entry) []any { x := copied(e); x.Head.Fields = x.Select; return []any{x} },
	} {
		inner := &testing.T{}
		checkApart(inner, what, lettersEntry(), f)
		if !inner.Failed() {
			t.Errorf("a function that %s passes", what)
		}
	}
	checkApart(t, "a copy", lettersEntry(), func(e impl.Entry) []any { return []any{copied(e), copied(e)} })
}

// lettersEntry is an entry with all of its ten bytes.
func lettersEntry() impl.Entry {
	return impl.Entry{Key: "h/a", Select: pairs("a", "1", "b", ""), Head: answer(200, "", "date", stamp(60), "last-modified", stamp(50), "etag", `"v1"`, "cache-control", "max-age=20", "content-type", "t", "surrogate-key", "k"), Pieces: []impl.Piece{piece(0, "abcdefghij")}, Length: 10, Initial: 3, Got: 65, Seq: 2}
}

// isEntryBy looks for what is wrong with an entry.
func isEntryBy(e impl.Entry) bool {
	date, _ := valuesBy(e.Head.Fields, "date")
	_, hasDate := dateOf(date)
	held, _ := heldBy(e.Pieces)
	moves := slices.ContainsFunc(e.Head.Fields, func(f impl.Field) bool {
		return slices.Contains([]string{"age", "x-purge", "content-range"}, f.Name)
	})
	switch {
	case !impl.IsResponse(e.Head), !slices.Contains([]int{200, 404, 410}, e.Head.Code), e.Head.Body != "", !hasDate, moves:
		return false
	case !impl.AreFields(e.Select), !arePiecesBy(e.Pieces, e.Length), e.Head.Code != 200 && len(held) < e.Length:
		return false
	}
	return len(e.Key) <= 160 && min(e.Initial, e.Got, e.Seq) >= 0 && e.Initial <= 2147483648 && e.Got <= 4102444799 && e.Seq <= 1000000000000
}

func checkEntry(t *testing.T, e impl.Entry, want bool) {
	t.Helper()
	if got := impl.IsEntry(e); got != want {
		t.Errorf("IsEntry(%+v) = %v", e, got)
	}
	if by := isEntryBy(e); by != want {
		t.Errorf("%+v should give %v, want %v", e, by, want)
	}
}

func TestIsEntry(t *testing.T) {
	checkEntry(t, lettersEntry(), true)
	checkEntry(t, impl.Entry{}, false)
	checkEntry(t, impl.Entry{Head: answer(200, "", "date", stamp(0))}, true)
	long := strings.Repeat("k", 160)
	for code := -1; code < 610; code++ {
		e := lettersEntry()
		e.Head.Code = code
		checkEntry(t, e, code == 200 || code == 404 || code == 410)
		// With missing bytes.
		e.Pieces = []impl.Piece{piece(0, "abcdefghi")}
		checkEntry(t, e, code == 200)
	}
	for _, x := range []struct {
		change func(e *impl.Entry)
		want   bool
	}{
		{func(e *impl.Entry) { e.Key = "" }, true}, {func(e *impl.Entry) { e.Key = long }, true}, {func(e *impl.Entry) { e.Key = long + "k" }, false}, {func(e *impl.Entry) { e.Key = "\x00\xff h" }, true},
		// The head.
		{func(e *impl.Entry) { e.Head.Body = "x" }, false}, {func(e *impl.Entry) { e.Head.Fields = nil }, false}, {func(e *impl.Entry) { e.Head.Fields = pairs("date", "") }, false}, {func(e *impl.Entry) { e.Head.Fields = pairs("date", "60") }, false}, {func(e *impl.Entry) { e.Head.Fields = pairs("date", stamp(9), "date", stamp(9)) }, false}, {func(e *impl.Entry) { e.Head.Fields = pairs("date", dateAs(plainForm, 9)) }, true}, {func(e *impl.Entry) { e.Head.Fields = pairs("Date", stamp(9)) }, false},
		{func(e *impl.Entry) { e.Head.Fields = append(e.Head.Fields, pairs("age", "3")...) }, false}, {func(e *impl.Entry) { e.Head.Fields = append(pairs("age", ""), e.Head.Fields...) }, false}, {func(e *impl.Entry) { e.Head.Fields = append(e.Head.Fields, pairs("x-purge", "3")...) }, false}, {func(e *impl.Entry) { e.Head.Fields = append(e.Head.Fields, pairs("content-range", "bytes 0-9/10")...) }, false}, {func(e *impl.Entry) {
			e.Head.Fields = append(e.Head.Fields, pairs("ages", "3", "x-purges", "3", "content-ranges", "3")...)
		}, true},
		{func(e *impl.Entry) { e.Head.Fields = append(e.Head.Fields, pairs("content-length", "10")...) }, false}, {func(e *impl.Entry) { e.Head.Fields = append(e.Head.Fields, pairs("A", "1")...) }, false}, {func(e *impl.Entry) { e.Head.Fields = append(e.Head.Fields, pairs("a", " 1")...) }, false}, {func(e *impl.Entry) { e.Head.Fields = append(e.Head.Fields, manyFields(17)...) }, true}, {func(e *impl.Entry) { e.Head.Fields = append(e.Head.Fields, manyFields(18)...) }, false}, {func(e *impl.Entry) { e.Head.Fields = append(e.Head.Fields, pairs("host", "h", "vary", "*")...) }, true},
		// The selecting fields.
		{func(e *impl.Entry) { e.Select = nil }, true}, {func(e *impl.Entry) { e.Select = manyFields(24) }, true}, {func(e *impl.Entry) { e.Select = manyFields(25) }, false}, {func(e *impl.Entry) { e.Select = pairs("a", "1", "A", "1") }, false}, {func(e *impl.Entry) { e.Select = pairs("a", "1 ") }, false}, {func(e *impl.Entry) { e.Select = pairs("", "") }, false}, {func(e *impl.Entry) { e.Select = pairs("a", strings.Repeat("v", 201)) }, false}, {func(e *impl.Entry) { e.Select = pairs("age", "3", "content-length", "4", "age", "3") }, true},
		// The pieces.
		{func(e *impl.Entry) { e.Pieces = nil }, true}, {func(e *impl.Entry) { e.Pieces = singles(5) }, true}, {func(e *impl.Entry) { e.Pieces = singles(6) }, false}, {func(e *impl.Entry) { e.Pieces = []impl.Piece{piece(3, "x"), piece(0, "a")} }, false}, {func(e *impl.Entry) { e.Pieces = []impl.Piece{piece(3, "")} }, false}, {func(e *impl.Entry) { e.Pieces = []impl.Piece{piece(-1, "x")} }, false}, {func(e *impl.Entry) { e.Pieces, e.Length = singles(8), 600 }, true}, {func(e *impl.Entry) { e.Pieces, e.Length = singles(9), 600 }, false},
		{func(e *impl.Entry) { e.Length = 9 }, false}, {func(e *impl.Entry) { e.Length = 11 }, true}, {func(e *impl.Entry) { e.Length = 600 }, true}, {func(e *impl.Entry) { e.Length = 601 }, false}, {func(e *impl.Entry) { e.Length = -1 }, false}, {func(e *impl.Entry) { e.Pieces, e.Length = nil, 0 }, true}, {func(e *impl.Entry) { e.Pieces, e.Length = nil, -1 }, false}, {func(e *impl.Entry) { e.Pieces, e.Length = nil, 601 }, false},
		// An answer without a page has all of its bytes.
		{func(e *impl.Entry) { e.Head.Code, e.Length = 404, 11 }, false}, {func(e *impl.Entry) { e.Head.Code, e.Pieces, e.Length = 410, nil, 0 }, true}, {func(e *impl.Entry) { e.Head.Code, e.Pieces, e.Length = 410, nil, 1 }, false}, {func(e *impl.Entry) { e.Head.Code, e.Pieces = 404, []impl.Piece{piece(1, "bcdefghij")} }, false},
	} {
		e := lettersEntry()
		x.change(&e)
		checkEntry(t, e, x.want)
	}
	for _, n := range edgeTimes() {
		for _, change := range []func(e *impl.Entry){func(e *impl.Entry) { e.Initial = n }, func(e *impl.Entry) { e.Got = n }, func(e *impl.Entry) { e.Seq = n }} {
			e := lettersEntry()
			change(&e)
			checkEntry(t, e, isEntryBy(e))
		}
	}
}

func TestStampOf(t *testing.T) {
	for value, want := range map[string]int{"0": 0, "7": 7, "1000000000000": impl.MaxValue, "2147483649": 2147483649, "1000000000001": 0, "": 0, "-1": 0, "07": 0, "7 ": 0, "x": 0, "7, 8": 0} {
		if got := impl.StampOf(answer(200, "", "age", "3", "x-purge", value)); got != want {
			t.Errorf("StampOf of %q = %d, want %d", value, got, want)
		}
	}
	for _, x := range []impl.Response{{}, answer(200, "x-purge: 7", "purge", "7", "x-purges", "7", "X-Purge", "7"), answer(200, "", "x-purge", "7", "x-purge", "7")} {
		if got := impl.StampOf(x); got != 0 {
			t.Errorf("StampOf(%#v) = %d", x, got)
		}
	}
}

// entryBy puts an entry together from what the answer says.
func entryBy(r impl.Request, x impl.Response, asked int, got int) (impl.Entry, bool) {
	names, _ := varyBy(x.Fields)
	e := impl.Entry{Length: len(x.Body), Initial: initialBy(x, asked, got), Got: got, Head: impl.Response{Code: x.Code}}
	e.Key, _ = impl.KeyOf(r)
	for _, name := range names {
		e.Select = append(e.Select, impl.Field{Name: name, Value: selectingBy(r, name)})
	}
	moving := []string{"age", "x-purge", "content-range"}
	if x.Body != "" {
		e.Pieces = []impl.Piece{piece(0, x.Body)}
	}
	if x.Code == 206 {
		moving, e.Head.Code = append(moving, "content-type"), 200
		e.Pieces, e.Length, _ = piecesBy(x)
	}
	for _, f := range x.Fields {
		if !slices.Contains(moving, f.Name) {
			e.Head.Fields = append(e.Head.Fields, f)
		}
	}
	if value, _ := valuesBy(x.Fields, "x-purge"); value != "" {
		n, ok := numberBy(value, -1)
		if ok && strconv.Itoa(n) == value {
			e.Seq = n
		}
	}
	if !storableBy(r, x) || !isEntryBy(e) {
		return impl.Entry{}, false
	}
	return e, true
}

func checkEntryOf(t *testing.T, r impl.Request, x impl.Response, asked int, got int, want impl.Entry, wantOK bool) {
	t.Helper()
	if e, ok := impl.EntryOf(r, x, asked, got); !alike(e, want) || ok != wantOK {
		t.Errorf("EntryOf(%q, %#v, %d, %d) = %+v, %v, want %+v, %v", r, x, asked, got, e, ok, want, wantOK)
	}
	if by, ok := entryBy(r, x, asked, got); !alike(by, want) || ok != wantOK {
		t.Errorf("%q, %#v, %d, %d should give %+v, %v, want %+v, %v", r, x, asked, got, by, ok, want, wantOK)
	}
}

func TestEntryOf(t *testing.T) {
	r := request("GET", "h", "/x/../a?c&b", "accept-language", "de,  en", "a", "1", "a", "2")
	// Each of the moving fields, once, more than once and with what cannot be read.
	x := answer(200, "body", "age", "4", "date", stamp(60), "x-purge", "7", "cache-control", "max-age=20", "content-range", "c", "vary", "A, accept-language, none", "content-type", "t", "ages", "5")
	e := impl.Entry{Key: "h/a?b&c", Select: pairs("a", "1, 2", "accept-language", "de, en", "none", ""), Head: answer(200, "", "date", stamp(60), "cache-control", "max-age=20", "vary", "A, accept-language, none", "content-type", "t", "ages", "5"), Pieces: []impl.Piece{piece(0, "body")}, Length: 4, Initial: 5, Got: 65, Seq: 7}
	checkEntryOf(t, r, x, 65, 65, e, true)
	x.Fields = append(x.Fields, pairs("age", "4", "x-purge", "7", "content-range", "")...)
	e.Seq = 0
	checkEntryOf(t, r, x, 65, 65, e, true)
	e.Initial = 9
	checkEntryOf(t, r, x, 56, 65, e, true)
	for _, code := range []int{404, 410} {
		y, f := copied(x), copied(e)
		y.Code, f.Head.Code = code, code
		checkEntryOf(t, r, y, 56, 65, f, true)
		y.Body, f.Pieces, f.Length = "", nil, 0
		checkEntryOf(t, r, y, 56, 65, f, true)
	}
	for _, code := range []int{201, 204, 301, 304, 400, 412, 416, 500, 504, 0} {
		y := copied(x)
		y.Code = code
		checkEntryOf(t, r, y, 56, 65, impl.Entry{}, false)
	}
	// Requests that are not stored.
	for _, method := range []string{"HEAD", "POST", "OPTIONS"} {
		checkEntryOf(t, request(method, "h", "/"), x, 56, 65, impl.Entry{}, false)
	}
	checkEntryOf(t, request("GET", "h", "/%"), x, 56, 65, impl.Entry{}, false)
	checkEntryOf(t, asking("no-store"), x, 56, 65, impl.Entry{}, false)
	checkEntryOf(t, request("GET", "h", "/", "authorization", "u"), x, 56, 65, impl.Entry{}, false)
	checkEntryOf(t, impl.Request{}, impl.Response{}, 0, 0, impl.Entry{}, false)
	// An empty page, one of all bytes, and the longest of each.
	head := answer(200, "", "date", stamp(60), "cache-control", "public")
	checkEntryOf(t, request("GET", "h", "/"), head, 60, 60, impl.Entry{Key: "h/", Head: head, Got: 60}, true)
	for _, n := range []int{1, 599, 600, 601} {
		y, want := copied(head), impl.Entry{}
		y.Body = pageText(n)
		if n <= 600 {
			want = impl.Entry{Key: "h/", Head: head, Pieces: []impl.Piece{piece(0, y.Body)}, Length: n, Got: 60}
		}
		checkEntryOf(t, request("GET", "h", "/"), y, 60, 60, want, n <= 600)
	}
	// Selecting fields that are none.
	for _, vary := range []string{"a b", "\"a\"", strings.Repeat("n", 41), "*"} {
		y := copied(head)
		y.Fields = append(y.Fields, pairs("vary", vary)...)
		checkEntryOf(t, r, y, 60, 60, impl.Entry{}, false)
	}
	long := strings.Repeat("v", 150)
	y := copied(head)
	y.Fields = append(y.Fields, pairs("vary", "b")...)
	checkEntryOf(t, request("GET", "h", "/", "b", long, "b", long), y, 60, 60, impl.Entry{}, false)
	checkEntryOf(t, request("GET", "h", "/", "b", long), y, 60, 60, impl.Entry{Key: "h/", Select: pairs("b", long), Head: y, Got: 60}, true)
}

func TestEntryOfParts(t *testing.T) {
	r := request("GET", "h", "/a", "range", "bytes=2-4")
	head := pairs("date", stamp(60), "etag", `"v1"`, "x", "y")
	more := func(texts ...string) []impl.Field { return slices.Concat(head, pairs(texts...)) }
	want := impl.Entry{Key: "h/a", Head: impl.Response{Code: 200, Fields: head}, Pieces: []impl.Piece{piece(2, "cde")}, Length: 10, Initial: 5, Got: 65, Seq: 3}
	// The fields that tell which part it is, and how parts are divided, are gone, the type of the page with them.
	checkEntryOf(t, r, impl.Response{Code: 206, Fields: more("content-range", "bytes 2-4/10", "x-purge", "3"), Body: "cde"}, 65, 65, want, true)
	checkEntryOf(t, r, impl.Response{Code: 206, Fields: more("content-type", "t", "age", "2", "content-range", "bytes 2-4/10", "x-purge", "3", "content-type", "u"), Body: "cde"}, 65, 65, want, true)
	kind := "multipart/byteranges; boundary=" + boundaryBy(impl.Response{Fields: head})
	body := partsBy(boundaryBy(impl.Response{Fields: head}), 10, piece(0, "a"), piece(2, "cde"), piece(9, "j"))
	want.Pieces = []impl.Piece{piece(0, "a"), piece(2, "cde"), piece(9, "j")}
	checkEntryOf(t, r, impl.Response{Code: 206, Fields: more("x-purge", "3", "content-type", kind), Body: body}, 65, 65, want, true)
	// Pieces that cannot be read, and a tag that is weak or missing.
	checkEntryOf(t, r, impl.Response{Code: 206, Fields: more("content-range", "bytes 2-5/10"), Body: "cde"}, 65, 65, impl.Entry{}, false)
	checkEntryOf(t, r, impl.Response{Code: 206, Fields: more("content-type", kind), Body: body + "x"}, 65, 65, impl.Entry{}, false)
	checkEntryOf(t, r, answer(206, "cde", "date", stamp(60), "content-range", "bytes 2-4/10"), 65, 65, impl.Entry{}, false)
	checkEntryOf(t, r, answer(206, "cde", "date", stamp(60), "etag", `W/"v1"`, "content-range", "bytes 2-4/10"), 65, 65, impl.Entry{}, false)
	// Only parts of 206 are parts.
	whole := impl.Response{Code: 200, Fields: more("content-type", "t", "content-range", "bytes 2-4/10", "expires", ""), Body: "cde"}
	checkEntryOf(t, r, whole, 65, 65, impl.Entry{Key: "h/a", Head: impl.Response{Code: 200, Fields: more("content-type", "t", "expires", "")}, Pieces: []impl.Piece{piece(0, "cde")}, Length: 3, Initial: 5, Got: 65}, true)
}

func TestEntryOfAtTheEndsOfTheNumbers(t *testing.T) {
	r := request("GET", "h", "/a")
	for _, age := range []string{"0", "7", "2147483648", "1000000000000"} {
		for _, date := range []int{0, 60, impl.MaxTime} {
			x := answer(200, "b", "date", stamp(date), "age", age, "cache-control", "public")
			for _, asked := range edgeTimes() {
				for _, got := range edgeTimes() {
					e, ok := impl.EntryOf(r, x, asked, got)
					want, wantOK := entryBy(r, x, asked, got)
					if !alike(e, want) || ok != wantOK || ok && (got < 0 || got > impl.MaxTime) {
						t.Errorf("EntryOf(%q, %d, %d) = %+v, %v, want %+v, %v", x.Fields, asked, got, e, ok, want, wantOK)
					}
				}
			}
		}
	}
}

func TestEntryAge(t *testing.T) {
	for _, x := range []struct{ initial, got, now, want int }{{3, 65, 65, 3}, {3, 65, 70, 8}, {3, 65, 60, 3}, {0, 0, 0, 0}, {impl.Forever, 0, 9, impl.Forever}, {-5, 65, 70, 5}} {
		if got := impl.EntryAge(impl.Entry{Initial: x.initial, Got: x.got}, x.now); got != x.want {
			t.Errorf("EntryAge of %d at %d = %d, want %d", x.initial, x.now, got, x.want)
		}
	}
	for _, initial := range edgeTimes() {
		for _, got := range edgeTimes() {
			for _, now := range edgeTimes() {
				if age := impl.EntryAge(impl.Entry{Initial: initial, Got: got, Seq: 99}, now); age != currentBy(initial, got, now) {
					t.Errorf("EntryAge of %d, %d at %d = %d", initial, got, now, age)
				}
			}
		}
	}
}

// fullOf is the answer of an entry as if it had the whole page.
func fullOf(e impl.Entry, page string, now int) impl.Response {
	l := slices.Concat(e.Head.Fields, pairs("age", strconv.Itoa(currentBy(e.Initial, e.Got, now)), "x-purge", strconv.Itoa(e.Seq)))
	return impl.Response{Code: e.Head.Code, Fields: l, Body: page}
}

// entryAnswerBy returns what the page would give, if the entry has all bytes that this needs.
func entryAnswerBy(e impl.Entry, r impl.Request, page string, now int) (impl.Response, bool) {
	x, needs := finishedBy(r, fullOf(e, page, now))
	held, _ := heldBy(e.Pieces)
	value, _ := valuesBy(r.Fields, "range")
	asks, isRange := rangesBy(value)
	if whole := r.Method == "GET" && x.Code == 200 && isRange && rangeHoldsBy(r, x); whole {
		// Parts that are too long are needed, too, though they are all of the page then.
		needs = append(needs, askedBy(asks, page)...)
	}
	needed, _ := heldBy(needs)
	for i := range needed {
		if _, has := held[i]; !has {
			return impl.Response{}, false
		}
	}
	if e.Head.Code == 200 && r.Method != "GET" && r.Method != "HEAD" {
		return impl.Response{}, false
	}
	return x, true
}

func checkAnswerOf(t *testing.T, e impl.Entry, r impl.Request, page string, now int) {
	t.Helper()
	want, wantOK := entryAnswerBy(e, r, page, now)
	if got, ok := impl.AnswerOf(e, r, now); ok != wantOK || !sameAnswer(got, want) {
		t.Errorf("AnswerOf(%+v, %q, %d) = %#v, %v, want %#v, %v", e, r, now, got, ok, want, wantOK)
	}
}

func TestAnswerOf(t *testing.T) {
	e := lettersEntry()
	head := []string{"date", stamp(60), "last-modified", stamp(50), "etag", `"v1"`, "cache-control", "max-age=20", "content-type", "t", "surrogate-key", "k", "age", "8", "x-purge", "2"}
	short := []string{"date", stamp(60), "etag", `"v1"`, "cache-control", "max-age=20", "surrogate-key", "k", "age", "8", "x-purge", "2"}
	for _, x := range []struct {
		method string
		fields []string
		want   impl.Response
	}{
		{"GET", nil, answer(200, "abcdefghij", head...)}, {"HEAD", nil, answer(200, "", head...)}, {"GET", []string{"range", "bytes=2-4"}, answer(206, "cde", append(head, "content-range", "bytes 2-4/10")...)}, {"HEAD", []string{"range", "bytes=2-4"}, answer(200, "", head...)}, {"GET", []string{"range", "bytes=10-"}, answer(416, "", append(short, "content-range", "bytes */10")...)},
		{"GET", []string{"if-none-match", `"v1"`}, answer(304, "", short...)}, {"HEAD", []string{"if-modified-since", stamp(50)}, answer(304, "", short...)}, {"GET", []string{"if-match", `"v2"`}, answer(412, "", short...)}, {"GET", []string{"range", "bytes=0-0", "if-range", `"v2"`}, answer(200, "abcdefghij", head...)},
	} {
		r := impl.Request{Method: x.method, Fields: pairs(x.fields...)}
		if got, ok := impl.AnswerOf(e, r, 70); !ok || !sameAnswer(got, x.want) {
			t.Errorf("AnswerOf for %q = %#v, %v, want %#v", r, got, ok, x.want)
		}
	}
	// Neither key nor selecting fields of the request count here.
	if _, ok := impl.AnswerOf(e, request("GET", "other", "/other", "a", "x"), 70); !ok {
		t.Error("another key")
	}
	if got, ok := impl.AnswerOf(e, request("POST", "h", "/a"), 70); ok || !sameAnswer(got, impl.Response{}) {
		t.Errorf("AnswerOf for POST = %#v, %v", got, ok)
	}
	e.Head.Code = 410
	for _, r := range []impl.Request{request("GET", "h", "/a"), request("HEAD", "h", "/a"), request("POST", "h", "/a"), request("GET", "h", "/a", "if-none-match", `"v1"`, "range", "bytes=0-0")} {
		want := answer(410, "abcdefghij", head...)
		if r.Method == "HEAD" {
			want.Body = ""
		}
		if got, ok := impl.AnswerOf(e, r, 70); !ok || !sameAnswer(got, want) {
			t.Errorf("AnswerOf for %q = %#v, %v, want %#v", r, got, ok, want)
		}
	}
	e.Initial = -1
	if got, ok := impl.AnswerOf(e, request("GET", "h", "/a"), 70); ok || !sameAnswer(got, impl.Response{}) {
		t.Errorf("AnswerOf of no entry = %#v, %v", got, ok)
	}
	if got, ok := impl.AnswerOf(impl.Entry{}, request("GET", "h", "/a"), 70); ok || !sameAnswer(got, impl.Response{}) {
		t.Errorf("AnswerOf of the zero entry = %#v, %v", got, ok)
	}
}

func TestAnswerOfAtTheEndsOfTheNumbers(t *testing.T) {
	for _, now := range edgeTimes() {
		for _, got := range []int{0, 65, impl.MaxTime} {
			e := lettersEntry()
			e.Got, e.Initial, e.Seq = got, impl.Forever-70, impl.MaxValue
			checkAnswerOf(t, e, request("GET", "h", "/a"), "abcdefghij", now)
			e.Initial, e.Seq = 0, 0
			checkAnswerOf(t, e, request("HEAD", "h", "/a"), "abcdefghij", now)
		}
	}
	// A head with as many fields as it may have.
	e := lettersEntry()
	e.Head.Fields = append(e.Head.Fields, manyFields(17)...)
	checkAnswerOf(t, e, request("GET", "h", "/a", "range", "bytes=1-2"), "abcdefghij", 70)
	// Parts that would be too long, of which bytes are missing or not.
	page := pageText(600)
	for _, l := range [][]impl.Piece{{piece(0, page)}, {cut(page, 0, 599)}, {cut(page, 0, 2), cut(page, 598, 600)}} {
		e := lettersEntry()
		e.Pieces, e.Length = l, 600
		for _, ranges := range []string{"bytes=0-0,599-", "bytes=0-0,3-3", "bytes=0-500,502-598", "bytes=0-500,502-599", "bytes=0-0,2-2,4-4,6-6,8-8,10-10"} {
			checkAnswerOf(t, e, request("GET", "h", "/a", "range", ranges), page, 70)
		}
	}
}

// An entry answers as the page would: with all sets of pieces of small pages, as far as they have the bytes.
func TestAnEntryAnswersAsThePageWould(t *testing.T) {
	for length := range 7 {
		page := "--\r\n\xffz"[:length]
		for set := range 1 << length {
			e := lettersEntry()
			e.Length, e.Pieces = length, nil
			for _, x := range runsOf(func(i int) bool { return i >= 0 && set>>i&1 == 1 }) {
				e.Pieces = append(e.Pieces, cut(page, x.From, x.To))
			}
			for _, code := range []int{200, 404} {
				e.Head.Code = code
				if !isEntryBy(e) {
					continue
				}
				for _, fields := range headers() {
					for _, method := range []string{"GET", "HEAD", "POST"} {
						checkAnswerOf(t, e, request(method, "h", "/", fields...), page, 60+length)
					}
				}
			}
		}
	}
}

// What the origin answers to one request, whole or in parts, answers others as the origin would have at that time, but for its age and stamp.
func TestAnEntryAnswersAsTheOriginDid(t *testing.T) {
	o := site()
	o.Resources[1].Control, o.Resources[4].Control = "s-maxage=5", "public"
	stored := 0
	for _, p := range o.Resources {
		for made := 0; made < 60; made += 7 {
			for _, first := range append(headers(), []string{"accept-language", "en", "range", "bytes=1-3"}) {
				r := request("GET", "h", p.Target, first...)
				x := impl.FinishAnswer(r, impl.PlainAnswer(o, r, made))
				e, ok := impl.EntryOf(r, x, made, made+2)
				if !ok {
					continue
				}
				stored++
				for _, second := range headers() {
					for _, method := range []string{"GET", "HEAD"} {
						q := request(method, "h", p.Target, append(second, "accept-language", "en")...)
						if !impl.Agrees(q, e.Select) {
							continue
						}
						plain := impl.PlainAnswer(o, q, made)
						plain.Fields = append(plain.Fields, pairs("age", "9", "x-purge", "0")...)
						want := impl.FinishAnswer(q, plain)
						if got, ok := impl.AnswerOf(e, q, made+9); ok && !sameAnswer(got, want) || !ok && x.Code != 206 {
							t.Fatalf("the entry of %q answers %q by %#v, %v, not %#v", r, q, got, ok, want)
						}
					}
				}
			}
		}
	}
	if stored < 100 {
		t.Errorf("just %d answers are stored", stored)
	}
}

func checkFreshened(t *testing.T, e impl.Entry, x impl.Response, asked int, got int, want impl.Entry, wantOK bool) {
	t.Helper()
	if fresh, ok := impl.FreshenEntry(e, x, asked, got); !alike(fresh, want) || ok != wantOK {
		t.Errorf("FreshenEntry(%+v, %#v, %d, %d) = %+v, %v, want %+v, %v", e, x, asked, got, fresh, ok, want, wantOK)
	}
}

func TestFreshenEntry(t *testing.T) {
	e := lettersEntry()
	fresh := func(initial int, seq int, fields ...string) impl.Entry {
		want := copied(e)
		want.Head.Fields, want.Initial, want.Got, want.Seq = pairs(fields...), initial, 95, seq
		return want
	}
	head := []string{"date", stamp(60), "last-modified", stamp(50), "etag", `"v1"`, "cache-control", "max-age=20", "content-type", "t", "surrogate-key", "k"}
	// No fields, and the moving ones.
	checkFreshened(t, e, answer(304, ""), 95, 95, fresh(0, 0, head...), true)
	checkFreshened(t, e, answer(304, "", "age", "4", "x-purge", "9", "content-range", "c"), 93, 95, fresh(6, 9, head...), true)
	checkFreshened(t, e, answer(304, "", "age", "4", "age", "4", "x-purge", "9", "x-purge", "9"), 93, 95, fresh(2, 0, head...), true)
	// Fields in any order, new ones and the same one twice; a body does not count.
	later := slices.Clone(head)
	later[1], later[7] = stamp(90), "s-maxage=9"
	checkFreshened(t, e, answer(304, "b", "cache-control", "s-maxage=9", "age", "2", "date", stamp(90)), 95, 95, fresh(5, 0, later...), true)
	checkFreshened(t, e, answer(304, "", "date", stamp(90), "cache-control", "no-store", "x", "1", "cache-control", "s-maxage=9", "y", "2", "x", "3"), 95, 95, fresh(5, 0, append(later, "x", "3", "y", "2")...), true)
	checkFreshened(t, e, answer(304, "", "date", stamp(90), "date", "x", "date", stamp(90)), 95, 95, fresh(0, 0, append([]string{"date", stamp(90)}, head[2:]...)...), true)
	// The type of the page and its tag change as well.
	other := slices.Clone(head)
	other[5], other[9] = `W/"v2"`, "u"
	checkFreshened(t, e, answer(304, "", "content-type", "u", "etag", `W/"v2"`), 95, 95, fresh(0, 0, other...), true)
	// One field instead of several.
	e.Head.Fields = append(e.Head.Fields, pairs("vary", "a", "x", "1", "vary", "b")...)
	checkFreshened(t, e, answer(304, "", "vary", "c"), 95, 95, fresh(0, 0, append(head, "vary", "c", "x", "1")...), true)
	e = lettersEntry()
	e.Head.Code = 404
	checkFreshened(t, e, answer(304, ""), 95, 95, fresh(0, 0, head...), true)
	e.Head.Code, e.Pieces = 200, singles(3)
	checkFreshened(t, e, answer(304, ""), 95, 95, fresh(0, 0, head...), true)
}

func TestFreshenEntryFails(t *testing.T) {
	e := lettersEntry()
	for _, x := range []impl.Response{
		// Other codes, and fields that no entry has.
		answer(200, "", "date", stamp(90)), answer(303, ""), answer(305, ""), answer(412, ""), answer(0, ""), {}, answer(304, "", "date", ""), answer(304, "", "date", "x"), answer(304, "", "content-length", "0"), answer(304, "", "A", "1"), answer(304, "", "a", " "), {Code: 304, Fields: manyFields(18)},
	} {
		checkFreshened(t, e, x, 95, 95, e, false)
	}
	many := copied(e)
	many.Head.Fields = slices.Concat(e.Head.Fields, manyFields(17))
	many.Initial, many.Got, many.Seq = 0, 95, 0
	checkFreshened(t, e, impl.Response{Code: 304, Fields: manyFields(17)}, 95, 95, many, true)
	checkFreshened(t, many, answer(304, "", "date", stamp(90), "one-more", "1"), 95, 95, many, false)
	// No entry before.
	for _, change := range []func(e *impl.Entry){func(e *impl.Entry) { e.Initial = -1 }, func(e *impl.Entry) { e.Got = -1 }, func(e *impl.Entry) { e.Seq = -1 }, func(e *impl.Entry) { e.Head.Fields[0].Value = "x" }, func(e *impl.Entry) { e.Length = 9 }} {
		e := lettersEntry()
		change(&e)
		checkFreshened(t, e, answer(304, "", "date", stamp(90), "x-purge", "3"), 95, 95, e, false)
	}
	// Times at both ends and beyond.
	for _, got := range edgeTimes() {
		for _, asked := range edgeTimes() {
			x := answer(304, "", "age", "7", "date", stamp(60))
			want := copied(e)
			want.Initial, want.Got, want.Seq = initialBy(x, asked, got), got, 0
			if !isEntryBy(want) {
				want = e
			}
			checkFreshened(t, e, x, asked, got, want, !alike(want, e))
		}
	}
}

func checkCombined(t *testing.T, old impl.Entry, e impl.Entry, want []impl.Piece, wantOK bool) {
	t.Helper()
	combined := copied(e)
	combined.Pieces = want
	if got, ok := impl.CombineEntry(old, e); !alike(got, combined) || ok != wantOK {
		t.Errorf("CombineEntry(%+v, %+v) = %+v, %v, want %+v, %v", old, e, got, ok, combined, wantOK)
	}
}

// withPieces is an entry of a page of 20 bytes, of which these are known.
func withPieces(l ...impl.Piece) impl.Entry {
	e := lettersEntry()
	e.Pieces, e.Length = l, 20
	return e
}

func TestCombineEntry(t *testing.T) {
	ab, cd, bc := piece(0, "ab"), piece(2, "cd"), piece(1, "bc")
	for _, x := range []struct {
		old, e, want []impl.Piece
		ok           bool
	}{
		{nil, nil, nil, true}, {[]impl.Piece{ab}, nil, []impl.Piece{ab}, true}, {nil, []impl.Piece{ab}, []impl.Piece{ab}, true},
		// Pieces that touch, overlap, are the same, or lie apart.
		{[]impl.Piece{ab}, []impl.Piece{cd}, []impl.Piece{piece(0, "abcd")}, true}, {[]impl.Piece{cd}, []impl.Piece{ab}, []impl.Piece{piece(0, "abcd")}, true}, {[]impl.Piece{ab}, []impl.Piece{bc}, []impl.Piece{piece(0, "abc")}, true}, {[]impl.Piece{ab}, []impl.Piece{ab}, []impl.Piece{ab}, true}, {[]impl.Piece{piece(9, "x")}, []impl.Piece{ab}, []impl.Piece{ab, piece(9, "x")}, true}, {[]impl.Piece{ab, piece(4, "e"), piece(9, "x")}, []impl.Piece{cd, piece(19, "z")}, []impl.Piece{piece(0, "abcde"), piece(9, "x"), piece(19, "z")}, true}, {[]impl.Piece{piece(0, "abcdefghijklmnopqrst")}, []impl.Piece{bc, piece(9, "j")}, []impl.Piece{piece(0, "abcdefghijklmnopqrst")}, true},
		// Pieces that differ, the first or a later one.
		{[]impl.Piece{piece(1, "xc")}, []impl.Piece{ab}, []impl.Piece{ab}, false}, {[]impl.Piece{piece(1, "b"), piece(5, "x")}, []impl.Piece{ab, piece(5, "y")}, []impl.Piece{ab, piece(5, "y")}, false}, {[]impl.Piece{cd, piece(5, "x"), piece(7, "y")}, []impl.Piece{ab, piece(5, "y")}, []impl.Piece{ab, piece(5, "y")}, false},
		// Eight of them and one more, also if a later one would join some.
		{singles(7), []impl.Piece{piece(18, "x")}, append(singles(7), piece(18, "x")), true}, {singles(8), []impl.Piece{piece(18, "x")}, []impl.Piece{piece(18, "x")}, false}, {[]impl.Piece{piece(16, "x")}, singles(8), singles(8), false}, {[]impl.Piece{piece(15, "xx")}, singles(8), append(singles(7), piece(14, "xxx")), true}, {[]impl.Piece{piece(1, "x"), piece(16, "x")}, singles(8), append(append([]impl.Piece{piece(0, "xxx")}, singles(8)[2:]...), piece(16, "x")), true}, {[]impl.Piece{piece(16, "x"), piece(18, "x")}, singles(7), singles(7), false}, {[]impl.Piece{piece(0, "xxx"), piece(16, "x"), piece(18, "x")}, singles(8), singles(8), false},
	} {
		checkCombined(t, withPieces(x.old...), withPieces(x.e...), x.want, x.ok)
	}
}

func TestCombineEntryOfDifferentPages(t *testing.T) {
	both := []impl.Piece{piece(0, "abcd")}
	for _, x := range []struct {
		change func(e *impl.Entry)
		ok     bool
	}{
		// What may differ.
		{func(e *impl.Entry) {}, true}, {func(e *impl.Entry) { e.Initial, e.Got, e.Seq = 9, 8, 7 }, true}, {func(e *impl.Entry) { e.Head.Fields[0].Value = stamp(9) }, true}, {func(e *impl.Entry) { e.Head.Fields = pairs("etag", `"v1"`, "date", stamp(60)) }, true},
		// What may not: the key, the selecting fields and their order, the length, the code, the tag.
		{func(e *impl.Entry) { e.Key = "h/b" }, false}, {func(e *impl.Entry) { e.Key = "" }, false}, {func(e *impl.Entry) { e.Select = nil }, false}, {func(e *impl.Entry) { e.Select = e.Select[:1] }, false}, {func(e *impl.Entry) { e.Select = pairs("b", "", "a", "1") }, false}, {func(e *impl.Entry) { e.Select[0].Value = "2" }, false}, {func(e *impl.Entry) { e.Length = 21 }, false}, {func(e *impl.Entry) { e.Length = 19 }, false}, {func(e *impl.Entry) { e.Head.Fields[2].Value = `"v2"` }, false}, {func(e *impl.Entry) { e.Head.Fields[2].Value = `W/"v1"` }, false}, {func(e *impl.Entry) { e.Head.Fields[2].Value = "v1" }, false}, {func(e *impl.Entry) { e.Head.Fields[2].Name = "e-tag" }, false}, {func(e *impl.Entry) { e.Head.Fields = append(e.Head.Fields, pairs("etag", `"v1"`)...) }, false},
		// What is no entry.
		{func(e *impl.Entry) { e.Initial = -1 }, false}, {func(e *impl.Entry) { e.Got = -1 }, false}, {func(e *impl.Entry) { e.Head.Fields[0].Value = "" }, false}, {func(e *impl.Entry) { e.Head.Body = "b" }, false}, {func(e *impl.Entry) { e.Pieces = append(e.Pieces, piece(25, "x")) }, false},
	} {
		for _, swapped := range []bool{false, true} {
			old, e := withPieces(piece(0, "ab")), withPieces(piece(2, "cd"))
			if swapped {
				x.change(&e)
			} else {
				x.change(&old)
			}
			want := e.Pieces
			if x.ok {
				want = both
			}
			checkCombined(t, old, e, want, x.ok)
		}
	}
	// Both without a tag, both with the same weak one, and codes beside 200 although all bytes are there.
	for _, change := range []func(e *impl.Entry){func(e *impl.Entry) { e.Head.Fields = e.Head.Fields[:2] }, func(e *impl.Entry) { e.Head.Fields[2].Value = `W/"v1"` }, func(e *impl.Entry) { e.Head.Fields[2].Value = "" }, func(e *impl.Entry) { e.Head.Code = 404 }, func(e *impl.Entry) { e.Head.Code = 410 }} {
		old, e := lettersEntry(), lettersEntry()
		checkCombined(t, old, e, e.Pieces, true)
		change(&old)
		change(&e)
		checkCombined(t, old, e, e.Pieces, false)
		checkCombined(t, lettersEntry(), e, e.Pieces, false)
		checkCombined(t, old, lettersEntry(), e.Pieces, false)
	}
	checkCombined(t, impl.Entry{}, impl.Entry{}, nil, false)
}

// Combined with others, an entry answers as the page would, and nothing is lost.
func TestCombinedEntriesAnswerAsThePageWould(t *testing.T) {
	page := "abcdef"
	parts := func(set int) impl.Entry {
		e := lettersEntry()
		e.Length, e.Pieces = len(page), nil
		for _, x := range runsOf(func(i int) bool { return i >= 0 && set>>i&1 == 1 }) {
			e.Pieces = append(e.Pieces, cut(page, x.From, x.To))
		}
		return e
	}
	for a := range 1 << len(page) {
		for b := range 1 << len(page) {
			e, ok := impl.CombineEntry(parts(a), parts(b))
			if !ok || !alike(e, parts(a|b)) {
				t.Fatalf("%v and %v give %v, %v", parts(a).Pieces, parts(b).Pieces, e.Pieces, ok)
			}
		}
	}
}

func TestEntriesShareNoMemory(t *testing.T) {
	r := request("GET", "h", "/a", "a", "1", "b", "2", "range", "bytes=0-0,3-")
	x := fresh(200, "max-age=9", "vary", "a, b", "etag", `"v1"`, "age", "3", "x-purge", "2")
	type both struct {
		R impl.Request
		X impl.Response
	}
	for _, y := range []impl.Response{x, impl.FinishAnswer(r, x), answer(404, ""), impl.FinishAnswer(request("GET", "h", "/", "range", "bytes=2-"), x)} {
		checkApart(t, "EntryOf", both{r, y}, func(b both) []any {
			e, ok := impl.EntryOf(b.R, b.X, 65, 70)
			return []any{e, ok, impl.StampOf(b.X)}
		})
	}
	for _, e := range []impl.Entry{lettersEntry(), withPieces(piece(0, "ab"), piece(7, "gh")), {}} {
		for _, r := range []impl.Request{r, request("HEAD", "h", "/a"), request("GET", "h", "/a", "if-none-match", "*")} {
			checkApart(t, "AnswerOf", e, func(e impl.Entry) []any {
				x, ok := impl.AnswerOf(e, r, 70)
				return []any{x, ok, impl.IsEntry(e), impl.EntryAge(e, 70)}
			})
		}
		for _, x := range []impl.Response{answer(304, "", "date", stamp(90), "x", "y"), answer(304, ""), answer(304, "", "date", "x"), answer(200, "")} {
			checkApart(t, "FreshenEntry", []any{e, x}, func(l []any) []any {
				f, ok := impl.FreshenEntry(l[0].(impl.Entry), l[1].(impl.Response), 95, 95)
				return []any{f, ok}
			})
		}
		for _, f := range []impl.Entry{lettersEntry(), withPieces(), withPieces(piece(0, "ab"), piece(4, "ef")), withPieces(piece(0, "b")), {}} {
			checkApart(t, "CombineEntry", []impl.Entry{e, f}, func(l []impl.Entry) []any {
				c, ok := impl.CombineEntry(l[0], l[1])
				return []any{c, ok}
			})
		}
	}
	if _, ok := impl.EntryOf(r, impl.FinishAnswer(r, x), math.MaxInt, 70); !ok {
		t.Error("the parts are not stored")
	}
}
