package tests

import (
	"math"
	"math/big"
	"strings"
	"testing"
	"time"

	"loop.example/g03012/impl"
)

const (
	firstForm = "Mon, 02 Jan 2006 15:04:05 GMT"
	longForm  = "Monday, 02-Jan-06 15:04:05 GMT"
	plainForm = "Mon Jan _2 15:04:05 2006"
	lastDay   = 47481
	secondsOf = 86400
)

// dateAs writes a time by the library in one of the forms above.
func dateAs(form string, t int) string {
	return time.Unix(int64(t), 0).UTC().Format(form)
}

// dateOf reads a date by the library, which allows more: what it reads must be written in the same way.
func dateOf(s string) (int, bool) {
	for _, form := range []string{firstForm, longForm, plainForm} {
		d, err := time.Parse(form, s)
		if err != nil {
			continue
		}
		if form == longForm && d.Year() == 1969 {
			// The library begins 1900 with the year 69.
			d = d.AddDate(100, 0, 0)
		}
		if t := int(d.Unix()); d.Format(form) == s && 0 <= t && t <= 4102444799 {
			return t, true
		}
	}
	return 0, false
}

// dateSeconds are times at the ends of days, months, years and leap years, with their neighbours.
func dateSeconds() []int {
	l := []int{0, 1, 59, 60, 3599, 3600, 86399, 86400, 784111777, 951782399, 951782400, 951868799, 951868800, 1<<31 - 1, 1 << 31, 4102444799, 4102444798}
	for day := 0; day <= lastDay; day += 13 {
		l = append(l, day*secondsOf, day*secondsOf+secondsOf-1, day*secondsOf+day*7919%secondsOf)
	}
	for y := 1970; y <= 2099; y++ {
		for m := 1; m <= 12; m++ {
			start := int(time.Date(y, time.Month(m), 1, 0, 0, 0, 0, time.UTC).Unix())
			l = append(l, start, start+9*secondsOf-1, start+9*secondsOf)
			if start > 0 {
				l = append(l, start-1)
			}
		}
	}
	return l
}

func checkDate(t *testing.T, s string, want int, wantOK bool) {
	t.Helper()
	if got, ok := impl.ParseDate(s); got != want || ok != wantOK {
		t.Errorf("ParseDate(%q) = %d, %v, want %d, %v", s, got, ok, want, wantOK)
	}
}

func TestMaxTime(t *testing.T) {
	if impl.MaxTime != 4102444799 {
		t.Error(impl.MaxTime)
	}
}

func TestIsLeap(t *testing.T) {
	for y, want := range map[int]bool{
		1900: false, 2000: true, 2100: false, 2200: false, 2400: true, 1600: true, 1700: false,
		1970: false, 1972: true, 1999: false, 2004: true, 2096: true, 2098: false, 2099: false,
		0: true, 1: false, 4: true, 100: false, 400: true,
		-1: false, -2: false, -3: false, -4: true, -5: false, -8: true, -96: true, -100: false, -104: true, -200: false, -400: true, -500: false, -800: true,
		math.MinInt: true, math.MinInt + 1: false, math.MinInt + 2: false, math.MinInt + 4: true, math.MinInt + 8: false, math.MinInt + 208: true,
		math.MaxInt: false, math.MaxInt - 1: false, math.MaxInt - 3: true, math.MaxInt - 7: false, math.MaxInt - 207: true,
	} {
		if got := impl.IsLeap(y); got != want {
			t.Errorf("IsLeap(%d) = %v, want %v", y, got, want)
		}
	}
}

func TestIsLeapAgainstTheLibrary(t *testing.T) {
	for y := -3000; y <= 5000; y++ {
		// The day behind 28 February is the 29th just in a leap year.
		want := time.Date(y, 2, 28, 0, 0, 0, 0, time.UTC).AddDate(0, 0, 1).Day() == 29
		if got := impl.IsLeap(y); got != want {
			t.Errorf("IsLeap(%d) = %v, want %v", y, got, want)
		}
	}
}

func TestDaysOf(t *testing.T) {
	for _, x := range []struct{ y, m, d, want int }{
		{1970, 1, 1, 0}, {1970, 1, 2, 1}, {1970, 1, 31, 30}, {1970, 2, 1, 31}, {1970, 2, 28, 58}, {1970, 3, 1, 59}, {1970, 12, 31, 364}, {1971, 1, 1, 365},
		{1972, 2, 29, 789}, {1972, 3, 1, 790}, {1994, 11, 6, 9075}, {2000, 2, 29, 11016}, {2000, 3, 1, 11017}, {2001, 3, 1, 11382},
		{2099, 12, 31, 47481}, {2099, 1, 1, 47117}, {2098, 12, 31, 47116},
		{1970, 2, 29, -1}, {1900, 2, 28, -1}, {1900, 2, 29, -1}, {2100, 2, 29, -1}, {2100, 1, 1, -1}, {1969, 12, 31, -1}, {1972, 2, 30, -1}, {2000, 2, 30, -1},
		{1970, 4, 31, -1}, {1970, 1, 32, -1}, {1970, 1, 0, -1}, {1970, 1, -1, -1}, {1970, 0, 1, -1}, {1970, 13, 1, -1}, {1970, -1, 1, -1}, {1970, 12, 32, -1},
		{0, 1, 1, -1}, {70, 1, 1, -1}, {-1970, 1, 1, -1}, {0, 0, 0, -1},
	} {
		if got := impl.DaysOf(x.y, x.m, x.d); got != x.want {
			t.Errorf("DaysOf(%d, %d, %d) = %d, want %d", x.y, x.m, x.d, got, x.want)
		}
	}
}

func TestDaysAndCivilDates(t *testing.T) {
	for day := 0; day <= lastDay; day++ {
		date := time.Unix(int64(day)*secondsOf, 0).UTC()
		y, m, d := impl.CivilOf(day)
		if y != date.Year() || m != int(date.Month()) || d != date.Day() {
			t.Errorf("CivilOf(%d) = %d, %d, %d, want %v", day, y, m, d, date)
		}
		if got := impl.DaysOf(date.Year(), int(date.Month()), date.Day()); got != day {
			t.Errorf("DaysOf of %v = %d, want %d", date, got, day)
		}
	}
}

// Every day of the month from below 1 to above 31, and the least and the greatest numbers, in every month of every year.
func TestDaysOfDatesThatThereAreNot(t *testing.T) {
	days := []int{math.MinInt, math.MinInt + 1, -400, math.MaxInt - 1, math.MaxInt, 366, 1 << 32, 1<<32 + 1}
	for d := -2; d <= 40; d++ {
		days = append(days, d)
	}
	for y := 1965; y <= 2105; y++ {
		for m := -1; m <= 14; m++ {
			for _, d := range days {
				want := -1
				date := time.Date(y, time.Month(m), 1, 0, 0, 0, 0, time.UTC)
				if 1970 <= y && y <= 2099 && 1 <= m && m <= 12 && 1 <= d && d <= date.AddDate(0, 1, -1).Day() {
					want = int(date.Unix())/secondsOf + d - 1
				}
				if got := impl.DaysOf(y, m, d); got != want {
					t.Fatalf("DaysOf(%d, %d, %d) = %d, want %d", y, m, d, got, want)
				}
			}
		}
	}
}

func TestDaysOfNumbersOutOfRange(t *testing.T) {
	// The nearest ones come first, to stop there: years without an end would be counted for ever.
	for _, n := range append([]int{2100, 1969, 13, 32}, numbers()...) {
		if n < 1970 || n > 2099 {
			if got := impl.DaysOf(n, 1, 1); got != -1 {
				t.Fatalf("DaysOf(%d, 1, 1) = %d, want -1", n, got)
			}
		}
		if n < 1 || n > 12 {
			if got := impl.DaysOf(2000, n, 1); got != -1 {
				t.Fatalf("DaysOf(2000, %d, 1) = %d, want -1", n, got)
			}
		}
		if n < 1 || n > 31 {
			if got := impl.DaysOf(2000, 1, n); got != -1 {
				t.Fatalf("DaysOf(2000, 1, %d) = %d, want -1", n, got)
			}
		}
	}
}

func TestCivilOf(t *testing.T) {
	for _, x := range []struct{ day, y, m, d int }{
		{0, 1970, 1, 1}, {30, 1970, 1, 31}, {31, 1970, 2, 1}, {58, 1970, 2, 28}, {59, 1970, 3, 1}, {364, 1970, 12, 31}, {365, 1971, 1, 1},
		{789, 1972, 2, 29}, {790, 1972, 3, 1}, {1095, 1972, 12, 31}, {1096, 1973, 1, 1}, {11016, 2000, 2, 29}, {11017, 2000, 3, 1},
		{47480, 2099, 12, 30}, {47481, 2099, 12, 31},
		{-1, 0, 0, 0}, {-2, 0, 0, 0}, {-365, 0, 0, 0}, {47482, 0, 0, 0}, {47483, 0, 0, 0}, {4102444799, 0, 0, 0},
	} {
		y, m, d := impl.CivilOf(x.day)
		// Stop at the first one: days without an end would be counted for ever.
		if y != x.y || m != x.m || d != x.d {
			t.Fatalf("CivilOf(%d) = %d, %d, %d, want %d, %d, %d", x.day, y, m, d, x.y, x.m, x.d)
		}
	}
	for _, n := range numbers() {
		y, m, d := impl.CivilOf(n)
		if (n < 0 || n > lastDay) && (y != 0 || m != 0 || d != 0) {
			t.Fatalf("CivilOf(%d) = %d, %d, %d, want 0, 0, 0", n, y, m, d)
		}
	}
}

func TestWeekdayOf(t *testing.T) {
	for day, want := range map[int]int{
		0: 4, 1: 5, 2: 6, 3: 0, 4: 1, 5: 2, 6: 3, 7: 4, 9075: 0, 47481: 4, 47482: 5,
		-1: 3, -2: 2, -3: 1, -4: 0, -5: 6, -6: 5, -7: 4, -8: 3, -11: 0, -700: 4,
	} {
		if got := impl.WeekdayOf(day); got != want {
			t.Errorf("WeekdayOf(%d) = %d, want %d", day, got, want)
		}
	}
	for day := -20000; day <= 50000; day++ {
		if got, want := impl.WeekdayOf(day), int(time.Unix(int64(day)*secondsOf, 0).UTC().Weekday()); got != want {
			t.Errorf("WeekdayOf(%d) = %d, want %d", day, got, want)
		}
	}
	for _, day := range numbers() {
		sum := new(big.Int).Add(big.NewInt(int64(day)), big.NewInt(4))
		if got, want := impl.WeekdayOf(day), int(sum.Mod(sum, big.NewInt(7)).Int64()); got != want {
			t.Errorf("WeekdayOf(%d) = %d, want %d", day, got, want)
		}
	}
}

func TestFormatDate(t *testing.T) {
	for n, want := range map[int]string{
		784111777: "Sun, 06 Nov 1994 08:49:37 GMT",
		0:         "Thu, 01 Jan 1970 00:00:00 GMT", 1: "Thu, 01 Jan 1970 00:00:01 GMT", 59: "Thu, 01 Jan 1970 00:00:59 GMT", 60: "Thu, 01 Jan 1970 00:01:00 GMT",
		3599: "Thu, 01 Jan 1970 00:59:59 GMT", 3600: "Thu, 01 Jan 1970 01:00:00 GMT", 86399: "Thu, 01 Jan 1970 23:59:59 GMT", 86400: "Fri, 02 Jan 1970 00:00:00 GMT",
		951782400: "Tue, 29 Feb 2000 00:00:00 GMT", 951868800: "Wed, 01 Mar 2000 00:00:00 GMT",
		4102444799: "Thu, 31 Dec 2099 23:59:59 GMT", 4102444798: "Thu, 31 Dec 2099 23:59:58 GMT",
		-1: "", -2: "", -86400: "", 4102444800: "", 4102444801: "", 4102531200: "", math.MinInt: "", math.MaxInt: "",
	} {
		if got := impl.FormatDate(n); got != want {
			t.Errorf("FormatDate(%d) = %q, want %q", n, got, want)
		}
	}
	for _, n := range numbers() {
		want := ""
		if 0 <= n && n <= 4102444799 {
			want = dateAs(firstForm, n)
		}
		if got := impl.FormatDate(n); got != want {
			t.Fatalf("FormatDate(%d) = %q, want %q", n, got, want)
		}
	}
}

// Every time is read from its date.
func TestTimesAreReadFromTheirDates(t *testing.T) {
	times := dateSeconds()
	for second := range secondsOf {
		times = append(times, 784080000+second)
	}
	for _, n := range times {
		s := impl.FormatDate(n)
		if want := dateAs(firstForm, n); s != want {
			t.Fatalf("FormatDate(%d) = %q, want %q", n, s, want)
		}
		if got, ok := impl.ParseDate(s); got != n || !ok {
			t.Fatalf("ParseDate(%q) = %d, %v, want %d, true", s, got, ok, n)
		}
	}
}

func TestTimesAreReadFromTheOlderForms(t *testing.T) {
	// The first second of 2070: from there on, two digits of a year mean an earlier one.
	const ends = 3155760000
	for _, n := range dateSeconds() {
		s := dateAs(plainForm, n)
		got, ok := impl.ParseDate(s)
		if got != n || !ok {
			t.Fatalf("ParseDate(%q) = %d, %v, want %d, true", s, got, ok, n)
		}
		s = dateAs(longForm, n)
		got, ok = impl.ParseDate(s)
		if n < ends && (got != n || !ok) {
			t.Fatalf("ParseDate(%q) = %d, %v, want %d, true", s, got, ok, n)
		}
		// A day and the one a hundred years before it have different weekdays.
		if n >= ends && (got != 0 || ok) {
			t.Fatalf("ParseDate(%q) = %d, %v, want 0, false", s, got, ok)
		}
	}
}

func TestParseDate(t *testing.T) {
	for s, want := range map[string]int{
		"Sun, 06 Nov 1994 08:49:37 GMT": 784111777, "Sunday, 06-Nov-94 08:49:37 GMT": 784111777, "Sun Nov  6 08:49:37 1994": 784111777,
		"Thu, 10 Nov 1994 08:49:37 GMT": 784457377, "Thursday, 10-Nov-94 08:49:37 GMT": 784457377, "Thu Nov 10 08:49:37 1994": 784457377,
		"Thu, 01 Jan 1970 00:00:00 GMT": 0, "Thursday, 01-Jan-70 00:00:00 GMT": 0, "Thu Jan  1 00:00:00 1970": 0,
		"Thu, 31 Dec 2099 23:59:59 GMT": 4102444799, "Thu Dec 31 23:59:59 2099": 4102444799,
		"Tuesday, 31-Dec-69 23:59:59 GMT": 3155759999, "Tue, 31 Dec 2069 23:59:59 GMT": 3155759999, "Tue Dec 31 23:59:59 2069": 3155759999,
		"Friday, 31-Dec-99 23:59:59 GMT": 946684799, "Saturday, 01-Jan-00 00:00:00 GMT": 946684800,
		"Tuesday, 29-Feb-00 12:00:00 GMT": 951825600, "Tue Feb 29 12:00:00 2000": 951825600, "Tue, 29 Feb 2000 12:00:00 GMT": 951825600,
		"Wednesday, 09-Nov-94 00:00:00 GMT": 784339200, "Monday, 07-Nov-94 00:00:00 GMT": 784166400, "Saturday, 05-Nov-94 00:00:00 GMT": 783993600,
		"Tue Feb 29 00:00:00 1972": 68169600, "Tuesday, 29-Feb-72 00:00:00 GMT": 68169600, "Tue, 29 Feb 1972 00:00:00 GMT": 68169600,
	} {
		checkDate(t, s, want, true)
	}
}

// The years of two digits from 00 to 69 belong to 2000, those from 70 to 99 to 1900.
func TestYearsOfTwoDigits(t *testing.T) {
	for y := 1970; y <= 2069; y++ {
		for _, month := range []time.Month{1, 2, 7, 12} {
			date := time.Date(y, month, 28, 23, 59, 58, 0, time.UTC)
			checkDate(t, date.Format(longForm), int(date.Unix()), true)
			for _, away := range []int{-100, 100} {
				other := date.AddDate(away, 0, 0)
				checkDate(t, other.Format(longForm), 0, false)
			}
		}
	}
	for s, want := range map[string]bool{
		"Thursday, 01-Jan-70 00:00:00 GMT": true, "Wednesday, 01-Jan-70 00:00:00 GMT": false,
		"Tuesday, 01-Jan-69 00:00:00 GMT": true, "Wednesday, 01-Jan-69 00:00:00 GMT": false,
	} {
		if _, ok := impl.ParseDate(s); ok != want {
			t.Errorf("ParseDate(%q) is %v, want %v", s, ok, want)
		}
	}
}

func TestYearsOutOfRange(t *testing.T) {
	for _, y := range []int{0, 1, 69, 70, 94, 1582, 1900, 1960, 1968, 1969, 2100, 2101, 2104, 2200, 9999} {
		for _, date := range []time.Time{time.Date(y, 1, 1, 0, 0, 0, 0, time.UTC), time.Date(y, 12, 31, 23, 59, 59, 0, time.UTC), time.Date(y, 3, 5, 1, 2, 3, 0, time.UTC)} {
			checkDate(t, date.Format(firstForm), 0, false)
			checkDate(t, date.Format(plainForm), 0, false)
		}
	}
}

// Only the right one of the weekdays is read, in full or by its first letters as the form has it.
func TestWeekdaysMustBeRight(t *testing.T) {
	names := []string{"Sunday", "Monday", "Tuesday", "Wednesday", "Thursday", "Friday", "Saturday"}
	for day := 9075; day < 9082; day++ {
		n := day*secondsOf + 31777
		right := time.Unix(int64(n), 0).UTC().Weekday().String()
		first, long, plain := dateAs(firstForm, n)[3:], strings.TrimPrefix(dateAs(longForm, n), right), dateAs(plainForm, n)[3:]
		for _, name := range names {
			want := 0
			if name == right {
				want = n
			}
			checkDate(t, name[:3]+first, want, name == right)
			checkDate(t, name+long, want, name == right)
			checkDate(t, name[:3]+plain, want, name == right)
			for _, s := range []string{name + first, name[:3] + long, name + plain, first, long, plain, "Sonntag" + long, "Wed" + long} {
				checkDate(t, s, 0, false)
			}
		}
	}
}

func TestParseDateRejects(t *testing.T) {
	for _, s := range []string{
		"", " ", "Sun", "GMT", "0", "784111777",
		"Mon, 06 Nov 1994 08:49:37 GMT", "Monday, 06-Nov-94 08:49:37 GMT", "Mon Nov  6 08:49:37 1994",
		// What is too much for a clock.
		"Sun, 06 Nov 1994 08:49:60 GMT", "Sunday, 06-Nov-94 08:49:60 GMT", "Sun Nov  6 08:49:60 1994",
		"Sun, 06 Nov 1994 08:60:37 GMT", "Sunday, 06-Nov-94 08:60:37 GMT", "Sun Nov  6 08:60:37 1994",
		"Sun, 06 Nov 1994 24:00:00 GMT", "Sunday, 06-Nov-94 24:00:00 GMT", "Sun Nov  6 24:00:00 1994", "Mon, 07 Nov 1994 24:00:00 GMT",
		"Sun, 06 Nov 1994 23:59:99 GMT", "Sun, 06 Nov 1994 99:49:37 GMT", "Thu, 31 Dec 2099 23:59:60 GMT", "Thu, 31 Dec 2099 24:00:00 GMT", "Thu Dec 31 24:00:00 2099",
		// Days and months that there are not.
		"Tue, 29 Feb 1994 00:00:00 GMT", "Mon, 29 Feb 2100 00:00:00 GMT", "Wed, 30 Feb 2000 00:00:00 GMT", "Thu, 31 Nov 1994 08:49:37 GMT", "Thu, 01 Dec 1994 24:49:37 GMT",
		"Sun, 00 Nov 1994 08:49:37 GMT", "Mon, 00 Nov 1994 08:49:37 GMT", "Sun, 32 Oct 1994 08:49:37 GMT", "Sun Nov  0 08:49:37 1994", "Tue Feb 29 00:00:00 1994", "Sunday, 00-Nov-94 08:49:37 GMT", "Tuesday, 29-Feb-94 08:49:37 GMT",
		"Sun, 06 Nev 1994 08:49:37 GMT", "Sun, 06 11  1994 08:49:37 GMT", "Sun, 06     1994 08:49:37 GMT", "Sun Nob  6 08:49:37 1994",
		// The wrong case.
		"sun, 06 Nov 1994 08:49:37 GMT", "SUN, 06 Nov 1994 08:49:37 GMT", "Sun, 06 nov 1994 08:49:37 GMT", "Sun, 06 NOV 1994 08:49:37 GMT", "Sun, 06 Nov 1994 08:49:37 gmt",
		"sunday, 06-Nov-94 08:49:37 GMT", "SUNDAY, 06-Nov-94 08:49:37 GMT", "Sunday, 06-nov-94 08:49:37 GMT", "Sunday, 06-Nov-94 08:49:37 gmt", "sun Nov  6 08:49:37 1994", "Sun nov  6 08:49:37 1994",
		// A day below 10 has a zero in front, and just in the third form a space.
		"Sun,  6 Nov 1994 08:49:37 GMT", "Sun, 6 Nov 1994 08:49:37 GMT", "Sunday,  6-Nov-94 08:49:37 GMT", "Sunday, 6-Nov-94 08:49:37 GMT",
		"Sun Nov 06 08:49:37 1994", "Sun Nov 6 08:49:37 1994", "Sun Nov   6 08:49:37 1994", "Sun Nov 6  08:49:37 1994", "Sun, 6  Nov 1994 08:49:37 GMT",
		// Forms that are mixed, and others.
		"Sun, 06 Nov 94 08:49:37 GMT", "Sunday, 06-Nov-1994 08:49:37 GMT", "Sunday, 06 Nov 1994 08:49:37 GMT", "Sun, 06-Nov-94 08:49:37 GMT", "Sun, 06-Nov-1994 08:49:37 GMT", "Sun Nov  6 08:49:37 94",
		"Sun Nov  6 08:49:37 GMT 1994", "Sun Nov  6 08:49:37 1994 GMT", "Sun, Nov  6 08:49:37 1994", "Sun, 06 Nov 1994 08:49:37", "Sun, 06 Nov 1994 08:49 GMT", "06 Nov 1994 08:49:37 GMT", "1994-11-06T08:49:37Z",
		"Sun, 06 Nov 1994 08:49:37 UTC", "Sun, 06 Nov 1994 08:49:37 +00", "Sun, 06 Nov 1994 8:49:37 GMT", "Sun, 06 Nov 1994  8:49:37 GMT", "Sun, 06 Nov 1994 08:49:7 GMT", "Sun, 06 Nov 1994 08:49: 7 GMT", "Sun, 06 Nov 1994 08-49-37 GMT", "Sun, 06 Nov 1994 +8:49:37 GMT",
		"Sun, +6 Nov 1994 08:49:37 GMT", "Sun, 06 Nov +994 08:49:37 GMT", "Sun, 06 Nov 01994 08:49:37 GMT", "Sun, 006 Nov 1994 08:49:37 GMT", "Sun; 06 Nov 1994 08:49:37 GMT",
		" Sun, 06 Nov 1994 08:49:37 GMT", "Sun, 06 Nov 1994 08:49:37 GMT ", "Sun, 06 Nov 1994 08:49:37 GMT\r\n", "\"Sun, 06 Nov 1994 08:49:37 GMT\"", "Sun, 06 Nov 1994 08:49:37 GMT, 0", "Sun,\t06 Nov 1994 08:49:37 GMT",
		", 06-Nov-94 08:49:37 GMT", "SSunday, 06-Nov-94 08:49:37 GMT", "Sunday , 06-Nov-94 08:49:37 GMT", "Sundays, 06-Nov-94 08:49:37 GMT", "Sunda, 06-Nov-94 08:49:37 GMT", "Sunday 06-Nov-94 08:49:37 GMT", "Sunday,06-Nov-94 08:49:37 GMT", "06-Nov-94 08:49:37 GMT",
		strings.Repeat(" ", 24), strings.Repeat("0", 24), strings.Repeat("0", 29), strings.Repeat("0", 31), strings.Repeat("\xff", 29), strings.Repeat("9", 30), strings.Repeat("Sun, 06 Nov 1994 08:49:37 GMT", 100),
		strings.Repeat("x", 5000) + ", 06-Nov-94 08:49:37 GMT", strings.Repeat("Sunday", 5) + ", 06-Nov-94 08:49:37 GMT",
	} {
		checkDate(t, s, 0, false)
	}
}

// Each byte of a date is changed into every other, left out and put in; what is read then is just what the library reads.
func TestDatesWithAByteOff(t *testing.T) {
	for _, n := range []int{0, 784111777, 951825600, 1100000000, 3155759999, 4102444799} {
		for _, form := range []string{firstForm, longForm, plainForm} {
			s := dateAs(form, n)
			for i := range len(s) + 1 {
				for b := range 256 {
					one := string([]byte{byte(b)})
					sameDate(t, s[:i]+one+s[i:])
					if i < len(s) {
						sameDate(t, s[:i]+one+s[i+1:])
					}
				}
				sameDate(t, s[:i])
				sameDate(t, s[i:])
				if i < len(s) {
					sameDate(t, s[:i]+s[i+1:])
				}
			}
		}
	}
}

// Every pair of digits stands in each place for two of them.
func TestDatesWithOtherNumbers(t *testing.T) {
	for _, s := range []string{"Sun, 06 Nov 1994 08:49:37 GMT", "Sunday, 06-Nov-94 08:49:37 GMT", "Sun Nov  6 08:49:37 1994", "Sun Nov 13 08:49:37 1994", "Tue, 29 Feb 2000 23:59:59 GMT"} {
		for i := range len(s) - 1 {
			for n := range 100 {
				two := string([]byte{byte('0' + n/10), byte('0' + n%10)})
				sameDate(t, s[:i]+two+s[i+2:])
			}
			for d := range 10 {
				sameDate(t, s[:i]+" "+string(rune('0'+d))+s[i+2:])
			}
		}
	}
}

func sameDate(t *testing.T, s string) {
	t.Helper()
	want, wantOK := dateOf(s)
	if got, ok := impl.ParseDate(s); got != want || ok != wantOK {
		t.Fatalf("ParseDate(%q) = %d, %v, want %d, %v", s, got, ok, want, wantOK)
	}
}
