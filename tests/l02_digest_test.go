package tests

import (
	"fmt"
	"math"
	"math/big"
	"slices"
	"strings"
	"testing"

	"loop.example/g03012/impl"
)

// digestOf is the rule of Hash in integers that do not wrap around.
func digestOf(l []int) int {
	modulus := big.NewInt(2147483647)
	digest := big.NewInt(7)
	for _, v := range l {
		// The remainder of Euclid is never negative.
		rest := new(big.Int).Mod(big.NewInt(int64(v)), modulus)
		digest.Mul(digest, big.NewInt(1000003)).Add(digest, rest).Add(digest, big.NewInt(19)).Mod(digest, modulus)
	}
	return int(digest.Int64())
}

func checkHash(t *testing.T, l []int, want int) {
	t.Helper()
	if got := impl.Hash(l); got != want {
		t.Errorf("Hash(%d) = %d, want %d", l, got, want)
	}
}

// manyBytes has each byte twice, in two orders, and texts of several bytes to a rune.
func manyBytes() string {
	all := make([]byte, 512)
	for i := range 256 {
		all[i], all[511-i] = byte(i), byte(i)
	}
	return string(all) + "grün, \u65e5\u672c, \U0001f600"
}

func TestModulus(t *testing.T) {
	if impl.Modulus != 2147483647 {
		t.Error(impl.Modulus)
	}
}

// The digests are worked out by hand from the rule: 7 * 1000003 = 7000021.
func TestHash(t *testing.T) {
	for _, x := range []struct {
		l    []int
		want int
	}{
		{nil, 7}, {[]int{}, 7},
		{[]int{0}, 7000040}, {[]int{1}, 7000041}, {[]int{5}, 7000045}, {[]int{255}, 7000295},
		{[]int{-1}, 7000039}, {[]int{-40}, 7000000}, {[]int{-7000041}, 2147483646}, {[]int{-7000040}, 0}, {[]int{-7000039}, 1},
		{[]int{impl.Modulus - 1}, 7000039}, {[]int{impl.Modulus}, 7000040}, {[]int{impl.Modulus + 1}, 7000041}, {[]int{impl.Modulus + 5}, 7000045},
		{[]int{2*impl.Modulus - 1}, 7000039}, {[]int{2 * impl.Modulus}, 7000040}, {[]int{1000*impl.Modulus + 3}, 7000043},
		{[]int{1 - impl.Modulus}, 7000041}, {[]int{-impl.Modulus}, 7000040}, {[]int{-impl.Modulus - 1}, 7000039}, {[]int{-2 * impl.Modulus}, 7000040},
		// 2^63-1 is 1 and -2^63 is -2 modulo 2^31-1.
		{[]int{math.MaxInt}, 7000041}, {[]int{math.MaxInt - 1}, 7000040}, {[]int{math.MinInt}, 7000038}, {[]int{math.MinInt + 1}, 7000039},
		// A digest of 0 and one of 1: 0 * 1000003 + 19 and 1 * 1000003 + 19.
		{[]int{-7000040, 0}, 19}, {[]int{-7000039, 0}, 1000022}, {[]int{-7000040, -19}, 0}, {[]int{-7000040, -20}, 2147483646},
	} {
		checkHash(t, x.l, x.want)
	}
}

func TestHashOfSeveral(t *testing.T) {
	near := numbers()
	checkHash(t, near, digestOf(near))
	for i, v := range near {
		checkHash(t, []int{v}, digestOf([]int{v}))
		checkHash(t, []int{v, near[len(near)-1-i]}, digestOf([]int{v, near[len(near)-1-i]}))
		checkHash(t, near[i:], digestOf(near[i:]))
		checkHash(t, near[:i], digestOf(near[:i]))
	}
}

// What is added once more, left out, changed or put elsewhere gives another digest (of these numbers it always does).
func TestHashFollowsEveryValue(t *testing.T) {
	l := []int{3, 1, 4, 1, 5, 9, 2, 6, -1, 0, impl.Modulus - 3, 255}
	plain := impl.Hash(l)
	for i := range l {
		for _, step := range []int{1, -1, 19, 256, impl.Modulus - 1} {
			other := slices.Clone(l)
			other[i] += step
			if impl.Hash(other) == plain {
				t.Errorf("Hash does not follow value %d when %d is added", i, step)
			}
		}
		if impl.Hash(slices.Delete(slices.Clone(l), i, i+1)) == plain {
			t.Errorf("Hash does not follow value %d when it is left out", i)
		}
		if impl.Hash(slices.Insert(slices.Clone(l), i, 0)) == plain {
			t.Errorf("Hash does not follow a 0 in place %d", i)
		}
		if i > 0 && l[i-1] != l[i] {
			other := slices.Clone(l)
			other[i-1], other[i] = other[i], other[i-1]
			if impl.Hash(other) == plain {
				t.Errorf("Hash does not follow the order at %d", i)
			}
		}
	}
}

func TestHashKeepsItsArgument(t *testing.T) {
	kept := []int{-1, impl.Modulus, 5, math.MinInt, 77, 78}
	l := slices.Clone(kept)
	if impl.Hash(l[:4]) != impl.Hash(kept[:4]) || !slices.Equal(l, kept) {
		t.Errorf("Hash has changed its argument to %d", l)
	}
}

func TestDigestsAreInTheirRange(t *testing.T) {
	for _, v := range numbers() {
		for _, d := range []int{impl.Hash([]int{v}), impl.Hash([]int{v, v}), impl.HashText(v, ""), impl.HashText(v, "\xff")} {
			if d < 0 || d >= impl.Modulus {
				t.Errorf("a digest of %d is %d", v, d)
			}
		}
	}
}

func TestHashText(t *testing.T) {
	for _, x := range []struct {
		seed int
		s    string
		want int
	}{
		{5, "", 7000045}, {0, "", 7000040}, {-1, "", 7000039}, {-7000040, "", 0}, {-7000041, "", 2147483646},
		{impl.Modulus - 1, "", 7000039}, {impl.Modulus, "", 7000040}, {impl.Modulus + 5, "", 7000045}, {-impl.Modulus, "", 7000040},
		{math.MaxInt, "", 7000041}, {math.MinInt, "", 7000038},
		// From a digest of 0 the next one is the byte and 19.
		{-7000040, "\x00", 19}, {-7000040, "\x01", 20}, {-7000040, "a", 116}, {-7000040, "\x7f", 146}, {-7000040, "\x80", 147}, {-7000040, "\xff", 274},
		{-7000040 - impl.Modulus, "a", 116}, {-7000040 + 3*impl.Modulus, "a", 116},
	} {
		if got := impl.HashText(x.seed, x.s); got != x.want {
			t.Errorf("HashText(%d, %q) = %d, want %d", x.seed, x.s, got, x.want)
		}
	}
}

func TestHashTextIsTheHashOfSeedAndBytes(t *testing.T) {
	many := manyBytes()
	texts := []string{"", "a", "ab", "ba", "aa", "\x00", "\x00\x00", "\xff", "\xff\xfe", "a\x00", "\x00a", "grün", "\u65e5\u672c", "\xe6\x97", "0", "-1", many, many + many, strings.Repeat("x", 3000)}
	for b := range 256 {
		texts = append(texts, string([]byte{byte(b)}), string([]byte{byte(b), 'x', byte(b)}))
	}
	for _, seed := range []int{0, 1, 7, 97, 255, -1, -97, impl.Modulus - 1, impl.Modulus, impl.Modulus + 1, 5 * impl.Modulus, -impl.Modulus, impl.MaxValue, math.MaxInt, math.MinInt} {
		for _, s := range texts {
			l := []int{seed}
			for _, b := range []byte(s) {
				l = append(l, int(b))
			}
			want := digestOf(l)
			if got := impl.HashText(seed, s); got != want || impl.Hash(l) != want {
				t.Fatalf("HashText(%d, %q) = %d, Hash of the same %d, want %d", seed, s, got, impl.Hash(l), want)
			}
		}
	}
}

func TestHexText(t *testing.T) {
	for n, want := range map[int]string{
		0: "00000000", 1: "00000001", 9: "00000009", 10: "0000000a", 15: "0000000f", 16: "00000010", 255: "000000ff", 256: "00000100",
		0x12345678: "12345678", 0x7bcdef09: "7bcdef09", 0x0fedcba9: "0fedcba9", 0x10000000: "10000000",
		impl.Modulus - 1: "7ffffffe", impl.Modulus: "7fffffff",
	} {
		if got := impl.HexText(n); got != want {
			t.Errorf("HexText(%d) = %q, want %q", n, got, want)
		}
	}
}

func TestHexTextOutOfRange(t *testing.T) {
	for _, n := range []int{-1, -2, -255, -impl.Modulus, -impl.Modulus - 1, math.MinInt, math.MinInt + 1, impl.Modulus + 1, impl.Modulus + 2, 1<<32 - 1, 1 << 32, 1<<32 + 5, 1 << 33, impl.MaxValue, math.MaxInt} {
		if got := impl.HexText(n); got != "" {
			t.Errorf("HexText(%d) = %q, want the empty string", n, got)
		}
	}
}

func TestHexTextAgainstTheLibrary(t *testing.T) {
	l := numbers()
	for n := range 70000 {
		l = append(l, n, impl.Modulus-n, n*30677)
	}
	for _, n := range l {
		want := ""
		if 0 <= n && n <= impl.Modulus {
			want = fmt.Sprintf("%08x", n)
		}
		if got := impl.HexText(n); got != want {
			t.Fatalf("HexText(%d) = %q, want %q", n, got, want)
		}
	}
}
