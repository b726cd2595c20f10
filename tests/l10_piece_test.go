package tests

import (
	"maps"
	"math"
	"slices"
	"strings"
	"testing"

	"loop.example/g03012/impl"
)

func piece(from int, data string) impl.Piece {
	return impl.Piece{From: from, Data: data}
}

// singles makes n pieces of one byte each, with a gap of one byte between them.
func singles(n int) []impl.Piece {
	l := []impl.Piece{}
	for i := range n {
		l = append(l, piece(2*i, "x"))
	}
	return l
}

// pageText is a page of n bytes, none of which is like those near it.
func pageText(n int) string {
	text := make([]byte, n)
	for i := range text {
		text[i] = byte(i * 7)
	}
	return string(text)
}

// cut returns a piece of a page.
func cut(page string, from int, to int) impl.Piece {
	return piece(from, page[from:to])
}

// heldBy returns the bytes of the pieces by their indices, and whether no index has two that differ.
func heldBy(l []impl.Piece) (map[int]byte, bool) {
	held, same := map[int]byte{}, true
	for _, p := range l {
		for i := range len(p.Data) {
			b, has := held[p.From+i]
			same = same && (!has || b == p.Data[i])
			held[p.From+i] = p.Data[i]
		}
	}
	return held, same
}

// arePiecesBy looks at each byte: whether it is in the page and neither it nor its neighbour in front belongs to another piece.
func arePiecesBy(l []impl.Piece, length int) bool {
	if length < 0 || length > 600 || len(l) > 8 {
		return false
	}
	free := 0
	for _, p := range l {
		if p.Data == "" || p.From < free || p.From > length || len(p.Data) > length-p.From {
			return false
		}
		free = p.From + len(p.Data) + 1
	}
	return true
}

// addedPieceBy makes pieces of bytes that stand together.
func addedPieceBy(l []impl.Piece, length int, x impl.Piece) ([]impl.Piece, bool) {
	if !arePiecesBy(l, length) || !arePiecesBy([]impl.Piece{x}, length) {
		return l, false
	}
	held, same := heldBy(append(slices.Clone(l), x))
	if !same {
		return l, false
	}
	joined := []impl.Piece{}
	for _, i := range slices.Sorted(maps.Keys(held)) {
		last := len(joined) - 1
		if last >= 0 && joined[last].From+len(joined[last].Data) == i {
			joined[last].Data += string([]byte{held[i]})
		} else {
			joined = append(joined, piece(i, string([]byte{held[i]})))
		}
	}
	if len(joined) > 8 {
		return l, false
	}
	return joined, true
}

func checkAdded(t *testing.T, l []impl.Piece, length int, x impl.Piece, want []impl.Piece, wantOK bool) {
	t.Helper()
	if got, ok := impl.AddPiece(l, length, x); !slices.Equal(got, want) || ok != wantOK {
		t.Fatalf("AddPiece(%v, %d, %v) = %v, %v, want %v, %v", l, length, x, got, ok, want, wantOK)
	}
}

func TestPieceLimits(t *testing.T) {
	if impl.MaxBody != 600 || impl.MaxPieces != 8 {
		t.Error(impl.MaxBody, impl.MaxPieces)
	}
}

func TestSpansOfPieces(t *testing.T) {
	for _, x := range []struct {
		l    []impl.Piece
		want []impl.Span
	}{
		{nil, nil}, {[]impl.Piece{}, nil}, {[]impl.Piece{piece(0, "a")}, spans(0, 1)}, {[]impl.Piece{piece(3, "abc")}, spans(3, 6)}, {[]impl.Piece{piece(2, "ab"), piece(7, "x")}, spans(2, 4, 7, 8)},
		// Lists that are no pieces, with their spans in their own order.
		{[]impl.Piece{piece(7, "x"), piece(2, "ab"), piece(7, "x")}, spans(7, 8, 2, 4, 7, 8)}, {[]impl.Piece{piece(0, "abc"), piece(1, "b")}, spans(0, 3, 1, 2)}, {[]impl.Piece{piece(5, "")}, spans(5, 5)}, {[]impl.Piece{piece(-3, "ab"), piece(-1, "ab"), piece(0, "")}, spans(-3, -1, -1, 1, 0, 0)},
		{[]impl.Piece{piece(4, "grün\x00")}, spans(4, 10)}, {[]impl.Piece{piece(599, strings.Repeat("x", 5000))}, spans(599, 5599)},
		// Sums wrap around.
		{[]impl.Piece{piece(math.MaxInt-1, "a"), piece(math.MaxInt, "a"), piece(math.MaxInt, "abc"), piece(math.MinInt, "ab"), piece(math.MaxInt, "")}, spans(math.MaxInt-1, math.MaxInt, math.MaxInt, math.MinInt, math.MaxInt, math.MinInt+2, math.MinInt, math.MinInt+2, math.MaxInt, math.MaxInt)},
	} {
		if got := impl.SpansOf(x.l); !slices.Equal(got, x.want) {
			t.Errorf("SpansOf(%v) = %v, want %v", x.l, got, x.want)
		}
	}
	if got := impl.SpansOf(singles(50)); len(got) != 50 || got[49] != span(98, 99) {
		t.Errorf("SpansOf of many pieces = %v", got)
	}
}

func TestArePieces(t *testing.T) {
	whole := strings.Repeat("x", 600)
	for _, x := range []struct {
		l      []impl.Piece
		length int
		want   bool
	}{
		// No pieces, and lengths at and beyond their limits.
		{nil, 0, true}, {[]impl.Piece{}, 0, true}, {nil, 1, true}, {nil, 599, true}, {nil, 600, true}, {nil, 601, false}, {nil, -1, false}, {nil, math.MinInt, false}, {nil, math.MaxInt, false}, {nil, 1000000000000, false},
		{[]impl.Piece{piece(0, whole)}, 600, true}, {[]impl.Piece{piece(0, whole)}, 599, false}, {[]impl.Piece{piece(0, whole+"x")}, 600, false}, {[]impl.Piece{piece(0, whole+"x")}, 601, false}, {[]impl.Piece{piece(599, "x")}, 600, true}, {[]impl.Piece{piece(600, "x")}, 600, false}, {[]impl.Piece{piece(600, "x")}, 601, false}, {[]impl.Piece{piece(0, "a")}, 601, false}, {[]impl.Piece{piece(0, "a")}, -1, false},
		// Pieces at the ends of the page and beyond.
		{[]impl.Piece{piece(0, "a")}, 1, true}, {[]impl.Piece{piece(0, "a")}, 0, false}, {[]impl.Piece{piece(4, "a")}, 5, true}, {[]impl.Piece{piece(4, "a")}, 4, false}, {[]impl.Piece{piece(2, "abc")}, 5, true}, {[]impl.Piece{piece(2, "abc")}, 4, false}, {[]impl.Piece{piece(-1, "a")}, 5, false}, {[]impl.Piece{piece(-1, "abc")}, 5, false}, {[]impl.Piece{piece(-2, "ab")}, 5, false},
		// Pieces without bytes.
		{[]impl.Piece{piece(0, "")}, 0, false}, {[]impl.Piece{piece(3, "")}, 5, false}, {[]impl.Piece{piece(0, "a"), piece(3, "")}, 5, false}, {[]impl.Piece{piece(0, ""), piece(3, "a")}, 5, false}, {[]impl.Piece{piece(5, "")}, 5, false},
		// Gaps, pieces that touch, overlap, lie within one another, are the same twice or are out of order.
		{[]impl.Piece{piece(0, "a"), piece(2, "c")}, 3, true}, {[]impl.Piece{piece(0, "a"), piece(2, "c")}, 2, false}, {[]impl.Piece{piece(0, "ab"), piece(3, "d"), piece(5, "fg")}, 7, true}, {[]impl.Piece{piece(0, "ab"), piece(3, "d"), piece(5, "fg")}, 6, false},
		{[]impl.Piece{piece(0, "a"), piece(1, "b")}, 9, false}, {[]impl.Piece{piece(0, "ab"), piece(1, "bc")}, 9, false}, {[]impl.Piece{piece(0, "abc"), piece(1, "b")}, 9, false}, {[]impl.Piece{piece(1, "b"), piece(0, "abc")}, 9, false}, {[]impl.Piece{piece(1, "b"), piece(1, "b")}, 9, false}, {[]impl.Piece{piece(3, "d"), piece(0, "a")}, 9, false}, {[]impl.Piece{piece(0, "a"), piece(4, "e"), piece(2, "c")}, 9, false}, {[]impl.Piece{piece(4, "e"), piece(0, "a"), piece(2, "c")}, 9, false},
		// Ends of the range of int.
		{[]impl.Piece{piece(math.MaxInt, "a")}, 600, false}, {[]impl.Piece{piece(math.MaxInt, "ab")}, 600, false}, {[]impl.Piece{piece(math.MaxInt-1, "a")}, 600, false}, {[]impl.Piece{piece(math.MinInt, "a")}, 600, false}, {[]impl.Piece{piece(math.MinInt, whole)}, 600, false}, {[]impl.Piece{piece(math.MinInt, "a")}, math.MaxInt, false}, {[]impl.Piece{piece(0, "a"), piece(math.MaxInt, "a")}, 600, false}, {[]impl.Piece{piece(math.MaxInt, "a"), piece(0, "a")}, 600, false},
		// As many pieces as there may be, and more.
		{singles(7), 600, true}, {singles(8), 600, true}, {singles(9), 600, false}, {singles(300), 600, false}, {singles(8), 15, true}, {singles(8), 14, false},
	} {
		if got := impl.ArePieces(x.l, x.length); got != x.want {
			t.Errorf("ArePieces(%v, %d) = %v, want %v", x.l, x.length, got, x.want)
		}
	}
}

func TestAddPiece(t *testing.T) {
	l := []impl.Piece{piece(2, "cde"), piece(7, "hi")}
	for _, x := range []struct {
		l    []impl.Piece
		x    impl.Piece
		want []impl.Piece
	}{
		{nil, piece(0, "a"), []impl.Piece{piece(0, "a")}}, {nil, piece(3, "defg"), []impl.Piece{piece(3, "defg")}}, {nil, piece(0, "abcdefghijkl"), []impl.Piece{piece(0, "abcdefghijkl")}}, {nil, piece(11, "l"), []impl.Piece{piece(11, "l")}},
		// In front, between and behind.
		{l, piece(0, "a"), []impl.Piece{piece(0, "a"), piece(2, "cde"), piece(7, "hi")}}, {[]impl.Piece{piece(2, "cd"), piece(7, "hi")}, piece(5, "f"), []impl.Piece{piece(2, "cd"), piece(5, "f"), piece(7, "hi")}}, {l, piece(10, "k"), []impl.Piece{piece(2, "cde"), piece(7, "hi"), piece(10, "k")}},
		// Pieces that touch.
		{l, piece(0, "ab"), []impl.Piece{piece(0, "abcde"), piece(7, "hi")}}, {l, piece(5, "f"), []impl.Piece{piece(2, "cdef"), piece(7, "hi")}}, {l, piece(6, "g"), []impl.Piece{piece(2, "cde"), piece(6, "ghi")}}, {l, piece(9, "jkl"), []impl.Piece{piece(2, "cde"), piece(7, "hijkl")}}, {l, piece(5, "fg"), []impl.Piece{piece(2, "cdefghi")}},
		// Pieces that overlap, lie within one another, are the same or join several.
		{l, piece(1, "bc"), []impl.Piece{piece(1, "bcde"), piece(7, "hi")}}, {l, piece(3, "def"), []impl.Piece{piece(2, "cdef"), piece(7, "hi")}}, {l, piece(4, "efgh"), []impl.Piece{piece(2, "cdefghi")}}, {l, piece(0, "abcdefghijkl"), []impl.Piece{piece(0, "abcdefghijkl")}}, {l, piece(2, "cdefghi"), []impl.Piece{piece(2, "cdefghi")}}, {l, piece(1, "bcdef"), []impl.Piece{piece(1, "bcdef"), piece(7, "hi")}}, {l, piece(5, "fghijk"), []impl.Piece{piece(2, "cdefghijk")}},
		{l, piece(2, "cde"), l}, {l, piece(7, "hi"), l}, {l, piece(2, "c"), l}, {l, piece(3, "d"), l}, {l, piece(4, "e"), l}, {l, piece(8, "i"), l},
		{[]impl.Piece{piece(0, "a"), piece(2, "c"), piece(4, "e"), piece(6, "g")}, piece(1, "bcdef"), []impl.Piece{piece(0, "abcdefg")}}, {[]impl.Piece{piece(0, "a"), piece(2, "c"), piece(4, "e"), piece(6, "g")}, piece(3, "d"), []impl.Piece{piece(0, "a"), piece(2, "cde"), piece(6, "g")}},
	} {
		checkAdded(t, x.l, 12, x.x, x.want, true)
	}
	for _, x := range []impl.Piece{
		// No bytes.
		piece(0, ""), piece(3, ""), piece(6, ""), piece(12, ""), piece(-1, ""), piece(20, ""),
		// Not within the page.
		piece(-1, "a"), piece(-1, "Xab"), piece(-3, "abc"), piece(12, "m"), piece(11, "lm"), piece(9, "jklm"), piece(0, "abcdefghijklm"), piece(600, "x"), piece(math.MaxInt, "x"), piece(math.MaxInt, "xy"), piece(math.MaxInt-1, "x"), piece(math.MinInt, "x"), piece(math.MinInt, strings.Repeat("x", 600)), piece(0, strings.Repeat("x", 601)),
		// A byte that differs: the only one, and the first, one in the middle and the last of those that both have.
		piece(2, "C"), piece(3, "x"), piece(4, "\x00"), piece(2, "Cde"), piece(2, "cDe"), piece(2, "cdE"), piece(1, "bC"), piece(1, "bCde"), piece(0, "abcdE"), piece(4, "Efg"), piece(3, "dE"), piece(6, "gH"), piece(6, "ghI"), piece(8, "Ij"), piece(4, "efgH"), piece(4, "EfgH"), piece(2, "cdefgHi"), piece(2, "cdefghI"), piece(0, "abcdefgHijkl"), piece(0, "abCdefghijkl"), piece(0, "abcDefghijkl"),
	} {
		checkAdded(t, l, 12, x, l, false)
	}
	// Bytes that nothing of l has may be any.
	checkAdded(t, l, 12, piece(0, "XY"), []impl.Piece{piece(0, "XYcde"), piece(7, "hi")}, true)
	checkAdded(t, l, 12, piece(4, "eXYh"), []impl.Piece{piece(2, "cdeXYhi")}, true)
	checkAdded(t, nil, 5, piece(1, "\x00\xff\r"), []impl.Piece{piece(1, "\x00\xff\r")}, true)
}

func TestAddPieceToWhatAreNone(t *testing.T) {
	for _, x := range []struct {
		l      []impl.Piece
		length int
	}{
		{nil, -1}, {nil, 601}, {nil, math.MinInt}, {nil, math.MaxInt}, {nil, 0}, {nil, 3}, {[]impl.Piece{piece(0, "a")}, 601}, {[]impl.Piece{piece(0, "a")}, -1}, {[]impl.Piece{piece(8, "i")}, 8},
		{[]impl.Piece{piece(0, "a"), piece(1, "b")}, 12}, {[]impl.Piece{piece(0, "ab"), piece(1, "bc")}, 12}, {[]impl.Piece{piece(7, "x"), piece(0, "a")}, 12}, {[]impl.Piece{piece(5, "")}, 12}, {[]impl.Piece{piece(-1, "a")}, 12}, {[]impl.Piece{piece(11, "ab")}, 12}, {[]impl.Piece{piece(0, "a"), piece(0, "b")}, 12}, {[]impl.Piece{piece(math.MaxInt, "a")}, 12}, {singles(9), 600}, {singles(40), 600},
	} {
		checkAdded(t, x.l, x.length, piece(3, "d"), x.l, false)
		checkAdded(t, x.l, x.length, piece(3, ""), x.l, false)
	}
	// Lengths at their limits.
	checkAdded(t, nil, 600, piece(599, "x"), []impl.Piece{piece(599, "x")}, true)
	checkAdded(t, nil, 599, piece(599, "x"), nil, false)
	checkAdded(t, nil, 1, piece(0, "x"), []impl.Piece{piece(0, "x")}, true)
	checkAdded(t, []impl.Piece{piece(0, pageText(599))}, 600, cut(pageText(600), 599, 600), []impl.Piece{piece(0, pageText(600))}, true)
}

func TestAddPieceUpToAllThatMayBe(t *testing.T) {
	checkAdded(t, singles(7), 600, piece(14, "x"), singles(8), true)
	checkAdded(t, singles(7), 600, piece(599, "y"), append(singles(7), piece(599, "y")), true)
	full := singles(8)
	for _, x := range []impl.Piece{piece(16, "x"), piece(599, "y"), piece(300, strings.Repeat("y", 100))} {
		checkAdded(t, full, 600, x, full, false)
	}
	// What is there already, what makes a piece longer and what joins two or all of them has room.
	checkAdded(t, full, 600, piece(6, "x"), full, true)
	checkAdded(t, full, 600, piece(15, "yz"), append(singles(7), piece(14, "xyz")), true)
	checkAdded(t, full, 600, piece(1, "y"), append([]impl.Piece{piece(0, "xyx")}, full[2:]...), true)
	checkAdded(t, full, 600, piece(13, "yx"), append(singles(6), piece(12, "xyx")), true)
	checkAdded(t, full, 600, piece(0, strings.Repeat("xy", 8)), []impl.Piece{piece(0, strings.Repeat("xy", 8))}, true)
	checkAdded(t, full, 600, piece(6, "y"), full, false)
	// Room once again.
	l, _ := impl.AddPiece(full, 600, piece(1, "y"))
	checkAdded(t, l, 600, piece(20, "z"), append(slices.Clone(l), piece(20, "z")), true)
	apart := []impl.Piece{}
	for i := range 8 {
		apart = append(apart, piece(3*i, "x"))
	}
	checkAdded(t, apart, 24, piece(4, "y"), append([]impl.Piece{piece(0, "x"), piece(3, "xy")}, apart[2:]...), true)
	checkAdded(t, apart, 24, piece(23, "y"), apart, false)
}

// pieceLists calls f with all lists of small pieces, up to a length.
func pieceLists(length int, f func([]impl.Piece)) {
	var grow func([]impl.Piece)
	grow = func(l []impl.Piece) {
		f(l)
		for from := -1; from <= 4 && len(l) < length; from++ {
			textsOf("ab", 2, func(s string) { grow(append(slices.Clone(l), piece(from, s))) })
		}
	}
	grow(nil)
}

func TestPiecesAgainstBytes(t *testing.T) {
	pieceLists(3, func(l []impl.Piece) {
		for _, length := range []int{-1, 0, 3, 5} {
			if got, want := impl.ArePieces(l, length), arePiecesBy(l, length); got != want {
				t.Fatalf("ArePieces(%v, %d) = %v, want %v", l, length, got, want)
			}
		}
		if len(l) > 2 && !arePiecesBy(l, 5) {
			return
		}
		for from := -1; from <= 5; from++ {
			textsOf("ab", 3, func(s string) {
				x := piece(from, s)
				want, wantOK := addedPieceBy(l, 5, x)
				checkAdded(t, l, 5, x, want, wantOK)
				if wantOK && !impl.ArePieces(want, 5) {
					t.Fatalf("AddPiece(%v, 5, %v) = %v, which are no pieces", l, x, want)
				}
			})
		}
	})
}

// orders calls f with the pieces in every order.
func orders(l []impl.Piece, f func([]impl.Piece)) {
	var grow func(done []impl.Piece, rest []impl.Piece)
	grow = func(done []impl.Piece, rest []impl.Piece) {
		if len(rest) == 0 {
			f(done)
		}
		for i, p := range rest {
			grow(append(slices.Clone(done), p), slices.Delete(slices.Clone(rest), i, i+1))
		}
	}
	grow(nil, l)
}

// Pieces keep every byte, in whatever order they are added.
func TestPiecesKeepEveryByte(t *testing.T) {
	page := pageText(20)
	for _, parts := range [][]impl.Piece{
		{cut(page, 0, 3), cut(page, 5, 8), cut(page, 3, 5), cut(page, 12, 20)},
		{cut(page, 0, 1), cut(page, 2, 3), cut(page, 4, 5), cut(page, 1, 4), cut(page, 10, 11), cut(page, 19, 20)},
		{cut(page, 2, 9), cut(page, 4, 5), cut(page, 8, 12), cut(page, 2, 9), cut(page, 0, 20)},
		{cut(page, 0, 10), cut(page, 5, 15), cut(page, 10, 20), cut(page, 9, 11), cut(page, 19, 20)},
		{cut(page, 3, 4), cut(page, 3, 4), cut(page, 3, 4)},
	} {
		held, _ := heldBy(parts)
		orders(parts, func(parts []impl.Piece) {
			l := []impl.Piece{}
			for _, p := range parts {
				more, ok := impl.AddPiece(l, 20, p)
				if !ok {
					t.Fatalf("AddPiece(%v, 20, %v) fails", l, p)
				}
				l = more
			}
			want, _ := addedPieceBy(parts[:0], 20, parts[0])
			for _, p := range parts[1:] {
				want, _ = addedPieceBy(want, 20, p)
			}
			if got, _ := heldBy(l); !slices.Equal(l, want) || !maps.Equal(got, held) || !impl.ArePieces(l, 20) {
				t.Fatalf("the pieces %v give %v, want %v", parts, l, want)
			}
			checkReads(t, l, page)
			if got := impl.IsWhole(l, 20); got != (len(held) == 20) {
				t.Fatalf("IsWhole(%v, 20) = %v", l, got)
			}
		})
	}
}

// checkReads reads all spans of a page from its pieces.
func checkReads(t *testing.T, l []impl.Piece, page string) {
	t.Helper()
	held, _ := heldBy(l)
	for from := range len(page) + 1 {
		all := true
		for to := from + 1; to <= len(page)+1; to++ {
			_, has := held[to-1]
			all = all && has
			want := ""
			if all {
				want = page[from:to]
			}
			if got, ok := impl.ReadPieces(l, span(from, to)); got != want || ok != all {
				t.Fatalf("ReadPieces(%v, %v) = %q, %v, want %q, %v", l, span(from, to), got, ok, want, all)
			}
		}
	}
}

func TestPiecesOfALongPage(t *testing.T) {
	page := pageText(600)
	l := []impl.Piece{}
	for i := range 24 {
		// Steps that leave gaps for a while, which others fill.
		from := i * 7 % 24 * 25
		x := cut(page, from, min(600, from+40))
		want, wantOK := addedPieceBy(l, 600, x)
		checkAdded(t, l, 600, x, want, wantOK)
		l = want
		// One byte that is another one is not added.
		other := []byte(x.Data)
		other[i%25] ^= 1
		checkAdded(t, l, 600, piece(x.From, string(other)), l, false)
	}
	if !impl.IsWhole(l, 600) || len(l) != 1 || l[0].Data != page {
		t.Errorf("the pieces give %v", l)
	}
	checkReads(t, []impl.Piece{cut(page, 0, 100), cut(page, 101, 300), cut(page, 500, 600)}, page)
}

func TestReadPieces(t *testing.T) {
	l := []impl.Piece{piece(2, "cde"), piece(7, "hi")}
	for _, x := range []struct {
		l    []impl.Piece
		x    impl.Span
		want string
		ok   bool
	}{
		// In one piece.
		{l, span(2, 5), "cde", true}, {l, span(2, 3), "c", true}, {l, span(3, 4), "d", true}, {l, span(4, 5), "e", true}, {l, span(3, 5), "de", true}, {l, span(7, 9), "hi", true}, {l, span(8, 9), "i", true},
		// In none, or only partly in one.
		{l, span(0, 1), "", false}, {l, span(1, 3), "", false}, {l, span(4, 6), "", false}, {l, span(5, 7), "", false}, {l, span(6, 8), "", false}, {l, span(8, 10), "", false}, {l, span(9, 10), "", false}, {l, span(4, 8), "", false}, {l, span(2, 9), "", false}, {l, span(0, 20), "", false}, {nil, span(0, 1), "", false}, {l, span(-1, 1), "", false}, {l, span(-3, 3), "", false},
		// Spans without bytes.
		{l, span(3, 3), "", true}, {l, span(6, 6), "", true}, {l, span(5, 3), "", true}, {nil, span(0, 0), "", true}, {l, span(-1, -1), "", true}, {l, span(-1, -5), "", true}, {l, span(4, -4), "", true}, {nil, span(math.MaxInt, math.MinInt), "", true}, {l, span(math.MaxInt, math.MaxInt), "", true}, {l, span(math.MinInt, math.MinInt), "", true}, {[]impl.Piece{piece(3, "")}, span(3, 3), "", true},
		// Ends of the range of int.
		{l, span(math.MinInt, math.MaxInt), "", false}, {l, span(0, math.MaxInt), "", false}, {l, span(3, math.MaxInt), "", false}, {l, span(math.MinInt, 3), "", false}, {l, span(math.MaxInt-1, math.MaxInt), "", false}, {l, span(math.MinInt, math.MinInt+1), "", false},
		// Only two neighbours have it together.
		{[]impl.Piece{piece(0, "ab"), piece(2, "cd")}, span(1, 3), "", false}, {[]impl.Piece{piece(0, "ab"), piece(2, "cd")}, span(0, 4), "", false}, {[]impl.Piece{piece(0, "abc"), piece(1, "bcd")}, span(0, 4), "", false}, {[]impl.Piece{piece(0, "ab"), piece(2, "cd")}, span(2, 4), "cd", true}, {[]impl.Piece{piece(0, "ab"), piece(2, "cd")}, span(1, 2), "b", true},
		// Lists that are no pieces are read all the same, the first one that has all of the bytes.
		{[]impl.Piece{piece(7, "hi"), piece(2, "cde")}, span(2, 5), "cde", true}, {[]impl.Piece{piece(0, "abc"), piece(0, "xyz")}, span(1, 3), "bc", true}, {[]impl.Piece{piece(0, "ab"), piece(0, "xyz")}, span(1, 3), "yz", true}, {[]impl.Piece{piece(3, ""), piece(3, "d")}, span(3, 4), "d", true}, {[]impl.Piece{piece(3, "")}, span(3, 4), "", false}, {[]impl.Piece{piece(-3, "abcd")}, span(-2, 1), "bcd", true}, {[]impl.Piece{piece(-3, "abcd")}, span(-4, 1), "", false}, {[]impl.Piece{piece(599, "abcd")}, span(600, 603), "bcd", true},
		{singles(30), span(58, 59), "x", true}, {singles(30), span(57, 58), "", false}, {[]impl.Piece{piece(math.MinInt, "ab")}, span(math.MinInt+1, math.MinInt+2), "b", true}, {[]impl.Piece{piece(math.MaxInt-2, "ab")}, span(math.MaxInt-1, math.MaxInt), "b", true}, {[]impl.Piece{piece(math.MinInt, "ab")}, span(math.MinInt, math.MaxInt), "", false},
		{[]impl.Piece{piece(0, "\x00\xffü\r\n")}, span(1, 5), "\xffü\r", true},
	} {
		if got, ok := impl.ReadPieces(x.l, x.x); got != x.want || ok != x.ok {
			t.Errorf("ReadPieces(%v, %v) = %q, %v, want %q, %v", x.l, x.x, got, ok, x.want, x.ok)
		}
	}
}

func TestIsWhole(t *testing.T) {
	for _, x := range []struct {
		l      []impl.Piece
		length int
		want   bool
	}{
		{nil, 0, true}, {nil, -1, true}, {nil, math.MinInt, true}, {nil, 1, false}, {nil, 600, false}, {nil, math.MaxInt, false}, {singles(3), 0, true}, {singles(3), -5, true},
		{[]impl.Piece{piece(0, "abc")}, 3, true}, {[]impl.Piece{piece(0, "abc")}, 2, true}, {[]impl.Piece{piece(0, "abc")}, 4, false}, {[]impl.Piece{piece(1, "bc")}, 3, false}, {[]impl.Piece{piece(0, "ab"), piece(3, "d")}, 4, false}, {[]impl.Piece{piece(0, "ab"), piece(3, "d")}, 2, true}, {[]impl.Piece{piece(0, "a")}, math.MaxInt, false},
		{[]impl.Piece{piece(0, pageText(600))}, 600, true}, {[]impl.Piece{piece(0, pageText(599))}, 600, false}, {[]impl.Piece{piece(1, pageText(599))}, 600, false},
		// Two neighbours are not one that has all, and lists that are no pieces count all the same.
		{[]impl.Piece{piece(0, "ab"), piece(2, "cd")}, 4, false}, {[]impl.Piece{piece(0, "ab"), piece(2, "cd")}, 2, true}, {[]impl.Piece{piece(5, "x"), piece(0, "abcd")}, 4, true}, {[]impl.Piece{piece(-2, "abcd")}, 2, true}, {[]impl.Piece{piece(-2, "abcd")}, 3, false}, {[]impl.Piece{piece(0, pageText(700))}, 700, true}, {[]impl.Piece{piece(0, "")}, 0, true}, {[]impl.Piece{piece(0, "")}, 1, false}, {[]impl.Piece{piece(math.MaxInt, "ab")}, 1, false},
	} {
		if got := impl.IsWhole(x.l, x.length); got != x.want {
			t.Errorf("IsWhole(%v, %d) = %v, want %v", x.l, x.length, got, x.want)
		}
	}
}

func TestPiecesShareNoMemory(t *testing.T) {
	room := piece(77, "room")
	good, bad := []impl.Piece{piece(2, "cde"), piece(7, "hi")}, []impl.Piece{piece(7, "hi"), piece(2, "cde")}
	for _, l := range [][]impl.Piece{good, bad, singles(8), nil} {
		for _, x := range []impl.Piece{piece(0, "a"), piece(5, "fg"), piece(3, "d"), piece(10, "k"), piece(2, "C"), piece(3, ""), piece(-1, "a"), piece(40, "x"), piece(0, "abcdefghijkl")} {
			checkNewMemory(t, "AddPiece", l, room, func(l []impl.Piece) []impl.Piece {
				got, _ := impl.AddPiece(l, 50, x)
				return got
			})
		}
		checkNewMemory(t, "SpansOf", l, room, impl.SpansOf)
		checkNewMemory(t, "ReadPieces", l, room, func(l []impl.Piece) []string {
			s, _ := impl.ReadPieces(l, span(3, 5))
			return []string{s}
		})
		checkNewMemory(t, "IsWhole", l, room, func(l []impl.Piece) []bool { return []bool{impl.ArePieces(l, 50), impl.IsWhole(l, 3)} })
	}
}
