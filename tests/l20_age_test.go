package tests

import (
	"math"
	"slices"
	"strconv"
	"strings"
	"testing"

	"loop.example/g03012/impl"
)

// edgeTimes are times near 0 and near the ends of what is a time, an age and a number.
func edgeTimes() []int {
	l := []int{}
	for _, n := range []int{0, 60, impl.Forever, impl.MaxTime, impl.MaxValue} {
		l = append(l, n-1, n, n+1, -n)
	}
	return append(l, math.MinInt, math.MinInt+1, math.MinInt+60, math.MaxInt, math.MaxInt-1, math.MaxInt-60, math.MaxInt/2, math.MinInt/2)
}

// ageBy reads an age by its digits.
func ageBy(x impl.Response) int {
	value, _ := valuesBy(x.Fields, "age")
	n, ok := numberBy(value, -1)
	if !ok || n < 0 || strconv.Itoa(n) != value {
		return 0
	}
	return min(n, 2147483648)
}

func initialBy(x impl.Response, asked int, got int) int {
	age := ageBy(x)
	if got-asked > 0 {
		age += got - asked
	}
	value, _ := valuesBy(x.Fields, "date")
	if date, ok := dateOf(value); ok && got-date > age {
		age = got - date
	}
	if age > 2147483648 {
		return 2147483648
	}
	return age
}

func currentBy(initial int, got int, now int) int {
	age := 0
	if initial > 0 {
		age = initial
	}
	if now-got > 0 {
		age += now - got
	}
	switch {
	case age > 2147483648:
		return 2147483648
	case age < 0:
		return 0
	}
	return age
}

func TestAgeField(t *testing.T) {
	for value, want := range map[string]int{
		"0": 0, "7": 7, "60": 60, "2147483647": 2147483647, "2147483648": impl.Forever, "2147483649": impl.Forever, "1000000000000": impl.Forever,
		// Numbers that are too great to be read, and what is no number.
		"1000000000001": 0, "99999999999999999999": 0, "18446744073709551623": 0, "": 0, "-1": 0, "-0": 0, "+7": 0, "07": 0, "00": 0, "7s": 0, "7.0": 0, "7 7": 0, "x": 0, "\"7\"": 0, "0x7": 0, "7,": 0,
	} {
		if got := impl.AgeField(answer(200, "", "date", stamp(5), "age", value)); got != want {
			t.Errorf("AgeField of %q = %d, want %d", value, got, want)
		}
	}
	for _, x := range []impl.Response{{}, answer(200, "age: 7"), answer(200, "", "Age", "7", "ages", "7", "x-age", "7", "ag", "7"), answer(200, "", "age", "7", "age", "7"), answer(200, "", "age", "7", "age", ""), answer(200, "", "age", "", "age", "7")} {
		if got := impl.AgeField(x); got != 0 {
			t.Errorf("AgeField(%q) = %d", x.Fields, got)
		}
	}
	variantsOf("120", func(s string) {
		x := answer(200, "", "age", s)
		if got := impl.AgeField(x); got != ageBy(x) {
			t.Errorf("AgeField of %q = %d, want %d", s, got, ageBy(x))
		}
	})
}

func TestInitialAge(t *testing.T) {
	for _, x := range []struct {
		fields []string
		asked  int
		got    int
		want   int
	}{
		// No date: the age that it says, and the time on the way.
		{nil, 0, 0, 0}, {nil, 50, 50, 0}, {nil, 50, 53, 3}, {[]string{"age", "7"}, 50, 50, 7}, {[]string{"age", "7"}, 50, 53, 10}, {[]string{"age", "x"}, 50, 53, 3}, {[]string{"age", "7", "date", "x"}, 50, 53, 10}, {[]string{"date", ""}, 0, 9, 9}, {[]string{"date", stamp(9), "date", stamp(9)}, 50, 53, 3},
		// A date that is ahead, at and behind the time of the answer.
		{[]string{"date", stamp(60)}, 50, 50, 0}, {[]string{"date", stamp(60)}, 50, 52, 2}, {[]string{"date", stamp(60)}, 60, 60, 0}, {[]string{"date", stamp(60)}, 58, 60, 2}, {[]string{"date", stamp(50)}, 52, 53, 3}, {[]string{"date", stamp(50)}, 90, 90, 40}, {[]string{"date", stamp(50)}, 40, 53, 13}, {[]string{"date", dateAs(plainForm, 50)}, 90, 90, 40}, {[]string{"date", stamp(0)}, 90, 90, 90},
		// Both: the greater one.
		{[]string{"date", stamp(50), "age", "7"}, 52, 53, 8}, {[]string{"date", stamp(50), "age", "2"}, 52, 53, 3}, {[]string{"date", stamp(50), "age", "2"}, 53, 53, 3}, {[]string{"age", "100", "date", stamp(50)}, 53, 53, 100}, {[]string{"age", "7", "age", "8", "date", stamp(50)}, 53, 53, 3},
		// Got before it was asked for.
		{nil, 60, 50, 0}, {[]string{"age", "7"}, 60, 50, 7}, {[]string{"date", stamp(20)}, 60, 50, 30}, {[]string{"date", stamp(60)}, 90, 50, 0}, {[]string{"date", stamp(60)}, 50, -50, 0}, {nil, -50, -40, 10},
		// At and above Forever.
		{nil, 0, impl.Forever - 1, impl.Forever - 1}, {nil, 0, impl.Forever, impl.Forever}, {nil, 0, impl.Forever + 1, impl.Forever}, {nil, 0, impl.MaxTime, impl.Forever}, {[]string{"age", "1000000000000"}, 0, 5, impl.Forever}, {[]string{"age", "2147483647"}, 0, 1, impl.Forever}, {[]string{"age", "2147483647"}, 0, 2, impl.Forever}, {[]string{"date", stamp(50)}, impl.MaxTime, impl.MaxTime, impl.Forever}, {[]string{"date", stamp(impl.MaxTime)}, 0, 0, 0}, {nil, 0, math.MaxInt, impl.Forever}, {nil, math.MinInt, -1, impl.Forever},
		// Differences and sums that wrap around.
		{nil, math.MinInt, 0, 0}, {nil, math.MinInt, math.MaxInt, 0}, {nil, math.MaxInt, math.MinInt, 1}, {nil, 1, math.MinInt, impl.Forever}, {[]string{"age", "7"}, 0, math.MaxInt, math.MinInt + 6}, {[]string{"age", "7"}, 7, math.MaxInt, impl.Forever}, {[]string{"age", "7"}, 6, math.MaxInt, math.MinInt}, {[]string{"age", "7", "date", stamp(0)}, 0, math.MaxInt, impl.Forever}, {[]string{"date", stamp(1)}, math.MinInt, math.MinInt, impl.Forever}, {[]string{"date", stamp(0)}, math.MinInt, math.MinInt, 0},
	} {
		a := answer(200, "", x.fields...)
		if got := impl.InitialAge(a, x.asked, x.got); got != x.want {
			t.Errorf("InitialAge(%q, %d, %d) = %d, want %d", x.fields, x.asked, x.got, got, x.want)
		}
		if by := initialBy(a, x.asked, x.got); by != x.want {
			t.Errorf("%q, %d, %d should give %d, want %d", x.fields, x.asked, x.got, by, x.want)
		}
	}
}

func TestCurrentAge(t *testing.T) {
	for _, x := range []struct{ initial, got, now, want int }{
		{0, 0, 0, 0}, {8, 53, 60, 15}, {8, 53, 53, 8}, {8, 60, 53, 8}, {0, 53, 60, 7}, {1, -5, 5, 11},
		// Negative ages count as 0.
		{-1, 53, 50, 0}, {-1, 53, 60, 7}, {-100, 53, 60, 7}, {math.MinInt, 53, 60, 7}, {math.MinInt, 60, 53, 0},
		// At and above Forever.
		{impl.Forever, 0, 0, impl.Forever}, {impl.Forever, 0, 5, impl.Forever}, {impl.Forever - 1, 0, 0, impl.Forever - 1}, {impl.Forever - 1, 0, 1, impl.Forever}, {impl.Forever - 5, 0, 4, impl.Forever - 1}, {impl.Forever - 5, 0, 6, impl.Forever}, {impl.Forever + 1, 5, 0, impl.Forever}, {0, 0, impl.Forever, impl.Forever}, {0, 0, impl.Forever + 1, impl.Forever}, {0, 0, impl.MaxTime, impl.Forever}, {math.MaxInt, 0, 0, impl.Forever}, {0, 0, math.MaxInt, impl.Forever},
		// Differences and sums that wrap around.
		{1, 0, math.MaxInt, 0}, {math.MaxInt, 0, 1, 0}, {math.MaxInt, 0, math.MaxInt, 0}, {5, math.MinInt, 0, 5}, {5, math.MinInt, -1, 0}, {0, math.MinInt, -1, impl.Forever}, {5, math.MaxInt, math.MinInt, 6}, {5, math.MinInt, math.MaxInt, 5},
	} {
		if got := impl.CurrentAge(x.initial, x.got, x.now); got != x.want {
			t.Errorf("CurrentAge(%d, %d, %d) = %d, want %d", x.initial, x.got, x.now, got, x.want)
		}
		if by := currentBy(x.initial, x.got, x.now); by != x.want {
			t.Errorf("%d, %d, %d should give %d, want %d", x.initial, x.got, x.now, by, x.want)
		}
	}
}

func TestAgesAtTheEndsOfTheNumbers(t *testing.T) {
	answers := []impl.Response{{}, answer(200, "", "age", "60"), answer(200, "", "date", stamp(60)), answer(200, "", "date", stamp(impl.MaxTime), "age", "2147483648"), answer(200, "", "date", stamp(0), "age", "1")}
	for _, a := range edgeTimes() {
		for _, b := range edgeTimes() {
			for _, x := range answers {
				if got, want := impl.InitialAge(x, a, b), initialBy(x, a, b); got != want {
					t.Errorf("InitialAge(%q, %d, %d) = %d, want %d", x.Fields, a, b, got, want)
				}
			}
			for _, c := range edgeTimes() {
				if got, want := impl.CurrentAge(a, b, c), currentBy(a, b, c); got != want {
					t.Errorf("CurrentAge(%d, %d, %d) = %d, want %d", a, b, c, got, want)
				}
			}
		}
	}
}

func TestWithAge(t *testing.T) {
	for age, want := range map[int]string{0: "0", 9: "9", 100: "100", impl.Forever - 1: "2147483647", impl.Forever: "2147483648", impl.Forever + 1: "2147483648", math.MaxInt: "2147483648", -1: "0", math.MinInt: "0"} {
		for _, x := range []struct{ had, want impl.Response }{
			// No age, one, several, and names that are others.
			{impl.Response{}, answer(0, "", "age", want)}, {answer(200, "b", "a", "1"), answer(200, "b", "a", "1", "age", want)}, {answer(404, "b", "age", "7"), answer(404, "b", "age", want)}, {answer(200, "", "a", "1", "age", "7", "b", "2"), answer(200, "", "a", "1", "age", want, "b", "2")}, {answer(200, "", "age", "", "a", "1", "age", "7", "age", "8"), answer(200, "", "age", want, "a", "1")}, {answer(200, "", "Age", "7", "ages", "8"), answer(200, "", "Age", "7", "ages", "8", "age", want)}, {answer(-1, "\xff", "A", "\x00"), answer(-1, "\xff", "A", "\x00", "age", want)},
		} {
			kept := slices.Clone(x.had.Fields)
			if got := impl.WithAge(x.had, age); !sameAnswer(got, x.want) {
				t.Errorf("WithAge(%#v, %d) = %#v, want %#v", x.had, age, got, x.want)
			}
			checkFields(t, "the argument of WithAge", x.had.Fields, kept)
		}
	}
	for age := range 200 {
		if x := impl.WithAge(answer(200, "", "age", "7"), age); impl.AgeField(x) != age {
			t.Errorf("WithAge %d gives %q", age, x.Fields)
		}
	}
}

// Ages grow with time: second by second, and the same whether an answer is kept in one place or given on with its age.
func TestAgesGrowWithTime(t *testing.T) {
	for _, x := range []impl.Response{{}, answer(200, "", "age", "7"), answer(200, "", "date", stamp(50)), answer(200, "", "date", stamp(50), "age", "7"), answer(200, "", "date", stamp(70), "age", "2147483640")} {
		for asked := 40; asked < 80; asked += 3 {
			last := -1
			for got := asked - 3; got < 90; got++ {
				initial := impl.InitialAge(x, asked, got)
				if initial < last || initial < impl.AgeField(x) || initial > impl.Forever {
					t.Fatalf("InitialAge(%q, %d, %d) = %d, and %d a second before", x.Fields, asked, got, initial, last)
				}
				last = initial
				for now := got; now < 110; now++ {
					age, next := impl.CurrentAge(initial, got, now), impl.CurrentAge(initial, got, now+1)
					if age != min(initial+now-got, impl.Forever) || next != min(age+1, impl.Forever) {
						t.Fatalf("CurrentAge(%d, %d, %d) = %d, and %d a second later", initial, got, now, age, next)
					}
					// Who gets it at once takes it for as old, if its date is not before that.
					given := impl.InitialAge(impl.WithAge(x, age), now, now)
					value, hasDate := impl.GetField(x.Fields, "date")
					if date, _ := dateOf(value); given < age || given != age && (!hasDate || now-date <= age) {
						t.Fatalf("the answer %q of age %d, given on at %d, has the age %d", x.Fields, age, now, given)
					}
				}
			}
		}
	}
}

func TestAgesShareNoMemory(t *testing.T) {
	room := impl.Field{Name: "age", Value: "99"}
	for _, l := range [][]impl.Field{pairs("a", "1", "age", "7", "date", stamp(50)), pairs("age", "7", "age", "8"), pairs("date", strings.ToLower(stamp(50))), nil} {
		checkNewMemory(t, "WithAge", l, room, func(l []impl.Field) []impl.Field {
			return impl.WithAge(impl.Response{Code: 200, Fields: l}, 9).Fields
		})
		checkNewMemory(t, "AgeField and InitialAge", l, room, func(l []impl.Field) []int {
			x := impl.Response{Code: 200, Fields: l}
			return []int{impl.AgeField(x), impl.InitialAge(x, 50, 60)}
		})
	}
}
