package tests

import (
	"math"
	"slices"
	"testing"

	"loop.example/g03012/impl"
)

// The small tests look at the bytes from firstByte to lastByte - 1, one by one.
const (
	firstByte = -4
	lastByte  = 16
)

func bytesOf(l ...impl.Span) map[int]bool {
	has := map[int]bool{}
	for _, x := range l {
		for i := x.From; i < x.To; i++ {
			has[i] = true
		}
	}
	return has
}

// runsOf returns the spans of bytes that stand together, in order.
func runsOf(has func(int) bool) []impl.Span {
	l := []impl.Span{}
	for i := firstByte; i < lastByte; i++ {
		if !has(i) {
			continue
		}
		if len(l) > 0 && l[len(l)-1].To == i {
			l[len(l)-1].To++
		} else {
			l = append(l, span(i, i+1))
		}
	}
	return l
}

// mayStand tells whether a span may stand in a set.
func mayStand(x impl.Span) bool {
	return x.From >= 0 && x.From < x.To && x.To <= 1000000000000
}

// isSetBy takes a list for a set if its spans may stand in one and are just the runs of their bytes.
func isSetBy(l []impl.Span) bool {
	has := bytesOf(l...)
	return !slices.ContainsFunc(l, func(x impl.Span) bool { return !mayStand(x) }) && slices.Equal(l, runsOf(func(i int) bool { return has[i] }))
}

// unitedBy returns the runs of the bytes of all the spans that may stand in a set.
func unitedBy(l []impl.Span) []impl.Span {
	has := map[int]bool{}
	for _, x := range l {
		for i := range bytesOf(x) {
			has[i] = has[i] || mayStand(x)
		}
	}
	return runsOf(func(i int) bool { return has[i] })
}

func addedBy(l []impl.Span, x impl.Span) []impl.Span {
	if !isSetBy(l) || !mayStand(x) {
		return l
	}
	return unitedBy(append(slices.Clone(l), x))
}

func missingBy(l []impl.Span, x impl.Span) []impl.Span {
	if !isSetBy(l) {
		l = nil
	}
	has, wanted := bytesOf(l...), bytesOf(x)
	return runsOf(func(i int) bool { return wanted[i] && !has[i] })
}

func coversBy(l []impl.Span, x impl.Span) bool {
	for _, s := range l {
		has, all := bytesOf(s), true
		for i := range bytesOf(x) {
			all = all && has[i]
		}
		if all {
			return true
		}
	}
	return len(bytesOf(x)) == 0
}

// spansOf calls f with all lists of spans within these bounds, up to a length.
func spansOf(low int, high int, length int, f func([]impl.Span)) {
	var grow func([]impl.Span)
	grow = func(l []impl.Span) {
		f(l)
		for a := low; a <= high && len(l) < length; a++ {
			for b := low; b <= high; b++ {
				grow(append(slices.Clone(l), span(a, b)))
			}
		}
	}
	grow(nil)
}

func checkSpans(t *testing.T, what string, got []impl.Span, want []impl.Span) {
	t.Helper()
	if !slices.Equal(got, want) {
		t.Fatalf("%s = %v, want %v", what, got, want)
	}
}

func spans(ends ...int) []impl.Span {
	l := []impl.Span{}
	for i := 0; i+1 < len(ends); i += 2 {
		l = append(l, span(ends[i], ends[i+1]))
	}
	return l
}

func TestIsSpanSet(t *testing.T) {
	const top = impl.MaxValue
	for _, l := range [][]impl.Span{
		nil, spans(), spans(0, 1), spans(0, top), spans(top-1, top), spans(2, 4, 7, 9), spans(0, 1, 2, 3, 4, 5), spans(0, 1, top-1, top), spans(0, top-2, top-1, top), spans(3, 5, 6, 7),
	} {
		if !impl.IsSpanSet(l) {
			t.Errorf("IsSpanSet(%v) = false", l)
		}
	}
	for _, l := range [][]impl.Span{
		// Spans that may not stand in a set.
		spans(0, 0), spans(3, 3), spans(5, 2), spans(-1, 3), spans(-1, 0), spans(-5, -2), spans(0, top+1), spans(top, top+1), spans(top, top), spans(math.MinInt, math.MaxInt), spans(0, math.MaxInt), spans(math.MinInt, 5), spans(math.MaxInt, math.MinInt), spans(0, math.MinInt),
		spans(0, 1, 3, 3), spans(0, 1, 5, 3), spans(-1, 1, 3, 4), spans(0, 1, 3, top+1), spans(0, 0, 3, 4), spans(0, 1, 2, 3, 6, 5),
		// Spans that touch, overlap, lie within one another or are in another order.
		spans(0, 2, 2, 3), spans(0, 2, 1, 3), spans(0, 9, 2, 3), spans(2, 3, 0, 9), spans(4, 5, 0, 1), spans(0, 1, 0, 1), spans(0, 1, 2, 3, 3, 4), spans(0, 1, 4, 5, 2, 3), spans(0, 5, 7, 9, 4, 6), spans(2, 3, 2, 3), spans(2, 3, 2, 4), spans(0, top-1, top-1, top),
	} {
		if impl.IsSpanSet(l) {
			t.Errorf("IsSpanSet(%v) = true", l)
		}
	}
	spansOf(-1, 5, 3, func(l []impl.Span) {
		if got, want := impl.IsSpanSet(l), isSetBy(l); got != want {
			t.Fatalf("IsSpanSet(%v) = %v, want %v", l, got, want)
		}
	})
}

func TestAddSpan(t *testing.T) {
	const top = impl.MaxValue
	l := spans(2, 4, 7, 9)
	for _, x := range []struct {
		l    []impl.Span
		x    impl.Span
		want []impl.Span
	}{
		{nil, span(0, 1), spans(0, 1)}, {nil, span(0, top), spans(0, top)}, {spans(), span(3, 8), spans(3, 8)},
		// In front, between and behind.
		{l, span(0, 1), spans(0, 1, 2, 4, 7, 9)}, {l, span(5, 6), spans(2, 4, 5, 6, 7, 9)}, {l, span(10, 12), spans(2, 4, 7, 9, 10, 12)}, {l, span(top-1, top), spans(2, 4, 7, 9, top-1, top)},
		// Spans that touch.
		{l, span(0, 2), spans(0, 4, 7, 9)}, {l, span(4, 5), spans(2, 5, 7, 9)}, {l, span(6, 7), spans(2, 4, 6, 9)}, {l, span(9, 10), spans(2, 4, 7, 10)}, {l, span(4, 7), spans(2, 9)}, {l, span(9, top), spans(2, 4, 7, top)},
		// Spans that overlap, lie within one another or join several.
		{l, span(1, 3), spans(1, 4, 7, 9)}, {l, span(3, 6), spans(2, 6, 7, 9)}, {l, span(3, 8), spans(2, 9)}, {l, span(0, 20), spans(0, 20)}, {l, span(2, 9), spans(2, 9)}, {l, span(5, 20), spans(2, 4, 5, 20)}, {l, span(2, 3), l}, {l, span(3, 4), l}, {l, span(7, 9), l}, {l, span(2, 4), l}, {spans(2, 9), span(4, 5), spans(2, 9)},
		{spans(0, 1, 2, 3, 4, 5, 6, 7), span(1, 6), spans(0, 7)}, {spans(0, 1, 2, 3, 4, 5, 6, 7), span(2, 5), spans(0, 1, 2, 5, 6, 7)}, {spans(0, top-1), span(top-1, top), spans(0, top)},
		// Spans that cannot be added.
		{l, span(5, 5), l}, {l, span(6, 5), l}, {l, span(0, 0), l}, {l, span(-1, 3), l}, {l, span(-1, 20), l}, {l, span(-3, -1), l}, {l, span(5, top+1), l}, {l, span(0, math.MaxInt), l}, {l, span(math.MinInt, math.MaxInt), l}, {l, span(math.MaxInt, math.MinInt), l}, {nil, span(-1, 1), nil}, {nil, span(0, top+1), nil}, {nil, span(4, 4), nil},
		// Lists that are no span set.
		{spans(0, 2, 2, 3), span(5, 6), spans(0, 2, 2, 3)}, {spans(4, 5, 0, 1), span(7, 8), spans(4, 5, 0, 1)}, {spans(3, 3), span(0, 1), spans(3, 3)}, {spans(-1, 3), span(5, 6), spans(-1, 3)}, {spans(0, top+1), span(5, 6), spans(0, top+1)}, {spans(0, 1, 0, 1), span(0, 1), spans(0, 1, 0, 1)}, {spans(4, 5, 0, 1), span(1, 1), spans(4, 5, 0, 1)},
	} {
		if got := impl.AddSpan(x.l, x.x); !slices.Equal(got, x.want) {
			t.Errorf("AddSpan(%v, %v) = %v, want %v", x.l, x.x, got, x.want)
		}
	}
}

// Span sets have just the bytes that were added: all short lists of small spans, and one more.
func TestAddedSpansAgainstBytes(t *testing.T) {
	spansOf(-1, 5, 2, func(l []impl.Span) {
		for a := -2; a <= 6; a++ {
			for b := -2; b <= 6; b++ {
				got := impl.AddSpan(l, span(a, b))
				checkSpans(t, "AddSpan", got, addedBy(l, span(a, b)))
				if isSetBy(l) && !impl.IsSpanSet(got) {
					t.Fatalf("AddSpan(%v, %v) = %v, which is no set", l, span(a, b), got)
				}
			}
		}
	})
	// All sets of twelve bytes.
	for bits := range 1 << 12 {
		l := runsOf(func(i int) bool { return i >= 0 && i < 12 && bits>>i&1 == 1 })
		if !impl.IsSpanSet(l) {
			t.Fatalf("IsSpanSet(%v) = false", l)
		}
		for _, x := range spans(0, 1, 0, 2, 3, 8, 5, 6, 2, 10, 11, 12, 6, 12, 0, 12, 12, 13, 13, 15, 4, 4, -1, 5) {
			checkSpans(t, "AddSpan", impl.AddSpan(l, x), addedBy(l, x))
			checkSpans(t, "MissingSpans", impl.MissingSpans(l, x), missingBy(l, x))
			if got, want := impl.CoversSpan(l, x), coversBy(l, x); got != want {
				t.Fatalf("CoversSpan(%v, %v) = %v, want %v", l, x, got, want)
			}
		}
	}
}

func TestUniteSpans(t *testing.T) {
	const top = impl.MaxValue
	for _, x := range []struct{ l, want []impl.Span }{
		{nil, nil}, {spans(), nil}, {spans(3, 5), spans(3, 5)}, {spans(5, 6, 0, 5), spans(0, 6)}, {spans(5, 6, 0, 4), spans(0, 4, 5, 6)}, {spans(3, 5, 3, 5), spans(3, 5)}, {spans(3, 5, 3, 9), spans(3, 9)}, {spans(3, 9, 3, 5), spans(3, 9)}, {spans(0, 9, 2, 3), spans(0, 9)}, {spans(2, 3, 0, 9), spans(0, 9)},
		{spans(8, 9, 4, 5, 0, 1, 6, 7, 2, 3), spans(0, 1, 2, 3, 4, 5, 6, 7, 8, 9)}, {spans(0, 2, 4, 6, 2, 4), spans(0, 6)}, {spans(0, 9, 1, 2, 8, 12), spans(0, 12)},
		// Spans that cannot be added are left out, and do not keep the others from it.
		{spans(3, 3), nil}, {spans(-1, 4), nil}, {spans(0, top+1), nil}, {spans(5, 2), nil}, {spans(0, 1, -1, 9, 2, 3), spans(0, 1, 2, 3)}, {spans(0, top+1, 2, 3), spans(2, 3)}, {spans(4, 4, 2, 6, 4, 4), spans(2, 6)}, {spans(math.MinInt, math.MaxInt, 1, 2, math.MaxInt, math.MinInt, 0, math.MaxInt), spans(1, 2)},
		{spans(0, top), spans(0, top)}, {spans(top-1, top, 0, 1), spans(0, 1, top-1, top)}, {spans(1, top, 0, 1), spans(0, top)},
	} {
		if got := impl.UniteSpans(x.l); !slices.Equal(got, x.want) {
			t.Errorf("UniteSpans(%v) = %v, want %v", x.l, got, x.want)
		}
	}
	spansOf(-1, 5, 3, func(l []impl.Span) {
		got := impl.UniteSpans(l)
		checkSpans(t, "UniteSpans", got, unitedBy(l))
		if !impl.IsSpanSet(got) {
			t.Fatalf("UniteSpans(%v) = %v, which is no set", l, got)
		}
	})
}

func TestUnitedSpansAreAddedOneAfterTheOther(t *testing.T) {
	many := []impl.Span{}
	for i := range 3000 {
		from := i * 7919 % 5000
		many = append(many, span(from-3, from+i%4-3))
		if i%100 == 0 {
			many = append(many, span(from*200000000, from*200000000+5), span(-from, from))
		}
	}
	for n := 0; n <= len(many); n += 300 {
		want := []impl.Span{}
		for _, x := range many[:n] {
			want = impl.AddSpan(want, x)
		}
		checkSpans(t, "UniteSpans", impl.UniteSpans(many[:n]), want)
	}
}

func TestCoversSpan(t *testing.T) {
	l := spans(2, 4, 7, 9)
	for _, x := range []struct {
		l    []impl.Span
		x    impl.Span
		want bool
	}{
		{l, span(2, 4), true}, {l, span(2, 3), true}, {l, span(3, 4), true}, {l, span(7, 8), true}, {l, span(8, 9), true}, {l, span(7, 9), true},
		{l, span(1, 3), false}, {l, span(3, 5), false}, {l, span(1, 5), false}, {l, span(4, 5), false}, {l, span(3, 8), false}, {l, span(2, 9), false}, {l, span(0, 1), false}, {l, span(9, 10), false}, {l, span(4, 7), false}, {nil, span(0, 1), false},
		// Nothing to cover.
		{l, span(5, 5), true}, {l, span(5, 4), true}, {nil, span(3, 3), true}, {nil, span(0, 0), true}, {nil, span(math.MaxInt, math.MinInt), true}, {l, span(-1, -1), true}, {l, span(-1, -5), true}, {spans(5, 2), span(3, 3), true},
		// Two neighbours cover it, but no single one.
		{spans(0, 2, 2, 4), span(1, 3), false}, {spans(0, 3, 1, 5), span(0, 5), false}, {spans(0, 2, 2, 4), span(2, 4), true}, {spans(0, 1, 1, 2, 2, 3), span(0, 3), false},
		// Lists that are no set count all the same.
		{spans(7, 9, 2, 4), span(2, 4), true}, {spans(0, 9, 2, 3), span(4, 9), true}, {spans(2, 3, 0, 9), span(4, 9), true}, {spans(-5, 5), span(-3, 2), true}, {spans(-5, 5), span(-6, 2), false}, {spans(5, 2), span(3, 4), false}, {spans(3, 3), span(3, 4), false}, {spans(math.MinInt, math.MaxInt), span(-1, 5), true}, {spans(math.MinInt, math.MaxInt), span(math.MinInt, math.MaxInt), true}, {spans(math.MinInt, math.MaxInt-1), span(0, math.MaxInt), false}, {spans(math.MinInt+1, 3), span(math.MinInt, 0), false},
	} {
		if got := impl.CoversSpan(x.l, x.x); got != x.want {
			t.Errorf("CoversSpan(%v, %v) = %v, want %v", x.l, x.x, got, x.want)
		}
	}
	spansOf(-1, 4, 2, func(l []impl.Span) {
		for a := -2; a <= 5; a++ {
			for b := -2; b <= 5; b++ {
				if got, want := impl.CoversSpan(l, span(a, b)), coversBy(l, span(a, b)); got != want {
					t.Fatalf("CoversSpan(%v, %v) = %v, want %v", l, span(a, b), got, want)
				}
			}
		}
	})
}

func TestMissingSpans(t *testing.T) {
	const top = impl.MaxValue
	l := spans(2, 4, 7, 9)
	for _, x := range []struct {
		l    []impl.Span
		x    impl.Span
		want []impl.Span
	}{
		// In front, between and behind.
		{l, span(0, 8), spans(0, 2, 4, 7)}, {l, span(0, 20), spans(0, 2, 4, 7, 9, 20)}, {l, span(2, 9), spans(4, 7)}, {l, span(3, 8), spans(4, 7)}, {l, span(5, 6), spans(5, 6)}, {l, span(4, 7), spans(4, 7)}, {l, span(3, 6), spans(4, 6)}, {l, span(5, 8), spans(5, 7)}, {l, span(0, 1), spans(0, 1)}, {l, span(0, 2), spans(0, 2)}, {l, span(1, 3), spans(1, 2)}, {l, span(9, 12), spans(9, 12)}, {l, span(8, 12), spans(9, 12)}, {l, span(10, 12), spans(10, 12)},
		// None missing.
		{l, span(2, 4), nil}, {l, span(3, 4), nil}, {l, span(7, 8), nil}, {spans(0, top), span(0, top), nil}, {spans(0, top), span(5, 6), nil},
		{nil, span(0, 5), spans(0, 5)}, {nil, span(-5, 5), spans(-5, 5)}, {nil, span(math.MinInt, math.MaxInt), spans(math.MinInt, math.MaxInt)}, {l, span(math.MinInt, math.MaxInt), spans(math.MinInt, 2, 4, 7, 9, math.MaxInt)}, {l, span(-3, 5), spans(-3, 2, 4, 5)}, {spans(0, top), span(-1, top+1), spans(-1, 0, top, top+1)}, {spans(0, 1), span(-3, -1), spans(-3, -1)},
		// No bytes.
		{l, span(5, 5), nil}, {l, span(6, 5), nil}, {l, span(9, 0), nil}, {l, span(8, 3), nil}, {nil, span(0, 0), nil}, {l, span(math.MaxInt, math.MinInt), nil}, {l, span(0, math.MinInt), nil}, {l, span(20, 1), nil},
		// Lists that are no span set.
		{spans(0, 2, 2, 3), span(1, 5), spans(1, 5)}, {spans(7, 9, 2, 4), span(0, 8), spans(0, 8)}, {spans(3, 3), span(0, 8), spans(0, 8)}, {spans(-1, 3), span(0, 8), spans(0, 8)}, {spans(0, top+1), span(0, 8), spans(0, 8)}, {spans(0, 2, 2, 3), span(5, 5), nil}, {spans(5, 2), span(4, 1), nil}, {spans(0, 9, 2, 3), span(-4, math.MaxInt), spans(-4, math.MaxInt)},
	} {
		if got := impl.MissingSpans(x.l, x.x); !slices.Equal(got, x.want) {
			t.Errorf("MissingSpans(%v, %v) = %v, want %v", x.l, x.x, got, x.want)
		}
	}
	spansOf(-1, 5, 2, func(l []impl.Span) {
		for a := -2; a <= 7; a++ {
			for b := -2; b <= 7; b++ {
				got := impl.MissingSpans(l, span(a, b))
				checkSpans(t, "MissingSpans", got, missingBy(l, span(a, b)))
			}
		}
	})
}

// What is missing completes the set.
func TestMissingSpansComplete(t *testing.T) {
	for bits := range 1 << 10 {
		l := runsOf(func(i int) bool { return i >= 0 && i < 10 && bits>>i&1 == 1 })
		missing := impl.MissingSpans(l, span(0, 10))
		if got := impl.SpanSize(missing) + impl.SpanSize(l); got != 10 {
			t.Fatalf("MissingSpans(%v) = %v: %d bytes together", l, missing, got)
		}
		checkSpans(t, "UniteSpans", impl.UniteSpans(append(slices.Clone(missing), l...)), spans(0, 10))
	}
}

func TestSpanSize(t *testing.T) {
	for _, x := range []struct {
		l    []impl.Span
		want int
	}{
		{nil, 0}, {spans(), 0}, {spans(3, 5), 2}, {spans(2, 4, 7, 9), 4}, {spans(0, impl.MaxValue), impl.MaxValue}, {spans(0, 1, 0, 1), 2}, {spans(0, 9, 2, 3), 10}, {spans(3, 3), 0}, {spans(5, 2), -3}, {spans(5, 2, 0, 1), -2}, {spans(-3, 4), 7}, {spans(-3, -1), 2},
		// Sums wrap around.
		{spans(math.MinInt, math.MaxInt), -1}, {spans(0, math.MaxInt, 0, 1), math.MinInt}, {spans(math.MaxInt, math.MinInt), 1}, {spans(math.MinInt, 0), math.MinInt}, {spans(0, math.MaxInt, 0, math.MaxInt, 0, 2), 0},
	} {
		if got := impl.SpanSize(x.l); got != x.want {
			t.Errorf("SpanSize(%v) = %d, want %d", x.l, got, x.want)
		}
	}
	spansOf(-1, 5, 3, func(l []impl.Span) {
		got := impl.UniteSpans(l)
		if impl.SpanSize(got) != len(bytesOf(got...)) {
			t.Fatalf("SpanSize(%v) = %d", got, impl.SpanSize(got))
		}
	})
}

func TestSpansShareNoMemory(t *testing.T) {
	good, bad := spans(2, 4, 7, 9), spans(7, 9, 2, 4)
	room := span(77, 78)
	for _, x := range spans(0, 1, 0, 20, 5, 6, 4, 7, 12, 14, 2, 3, 5, 5, -1, 3, 3, impl.MaxValue+1) {
		for _, l := range [][]impl.Span{good, bad, nil} {
			checkNewMemory(t, "AddSpan", l, room, func(l []impl.Span) []impl.Span { return impl.AddSpan(l, x) })
			checkNewMemory(t, "MissingSpans", l, room, func(l []impl.Span) []impl.Span { return impl.MissingSpans(l, x) })
		}
	}
	for _, l := range [][]impl.Span{good, bad, spans(3, 3, 5, 6), spans(0, 1), spans(4, 5, 0, 9, -1, 2)} {
		checkNewMemory(t, "UniteSpans", l, room, impl.UniteSpans)
		checkNewMemory(t, "CoversSpan", l, room, func(l []impl.Span) []bool { return []bool{impl.IsSpanSet(l), impl.CoversSpan(l, span(2, 3))} })
		checkNewMemory(t, "SpanSize", l, room, func(l []impl.Span) []int { return []int{impl.SpanSize(l)} })
	}
}
