package date_test

import (
	"testing"

	"pouch/api"
	"pouch/date"
)

const (
	firstDay = -719162
	lastDay  = 2932896
)

// extremes are integers at the ends of the range of int.
var extremes = []int{api.MinInt, api.MinInt + 1, api.MinInt + 2, api.MaxInt - 2, api.MaxInt - 1, api.MaxInt}

// lengthOf is the number of days of a month.
func lengthOf(y, m int) int {
	lengths := [13]int{0, 31, 28, 31, 30, 31, 30, 31, 31, 30, 31, 30, 31}
	if m == 2 && (y%400 == 0 || y%4 == 0 && y%100 != 0) {
		return 29
	}
	return lengths[m]
}

// P7.1: Days and Civil of dates whose day number is written out.
func TestKnownDays(t *testing.T) {
	for _, c := range []struct{ y, m, d, days int }{
		{1, 1, 1, -719162},
		{1, 1, 2, -719161},
		{1, 12, 31, -718798},
		{2, 1, 1, -718797},
		{4, 2, 28, -718009},
		{4, 2, 29, -718008},
		{4, 3, 1, -718007},
		{100, 2, 28, -682945},
		{100, 3, 1, -682944},
		{400, 2, 29, -573372},
		{400, 3, 1, -573371},
		{1600, 2, 29, -135081},
		{1900, 1, 1, -25567},
		{1900, 2, 28, -25509},
		{1900, 3, 1, -25508},
		{1969, 12, 31, -1},
		{1970, 1, 1, 0},
		{1970, 1, 2, 1},
		{1970, 12, 31, 364},
		{1971, 1, 1, 365},
		{1999, 12, 31, 10956},
		{2000, 1, 1, 10957},
		{2000, 2, 28, 11015},
		{2000, 2, 29, 11016},
		{2000, 3, 1, 11017},
		{2000, 12, 31, 11322},
		{2024, 2, 28, 19781},
		{2024, 2, 29, 19782},
		{2024, 3, 1, 19783},
		{2038, 1, 19, 24855},
		{9999, 1, 1, 2932532},
		{9999, 12, 30, 2932895},
		{9999, 12, 31, 2932896},
	} {
		if got := date.Days(c.y, c.m, c.d); got != c.days {
			t.Errorf("Days(%d, %d, %d) = %d, want %d", c.y, c.m, c.d, got, c.days)
		}
		if y, m, d := date.Civil(c.days); y != c.y || m != c.m || d != c.d {
			t.Errorf("Civil(%d) = %d, %d, %d, want %d, %d, %d", c.days, y, m, d, c.y, c.m, c.d)
		}
	}
}

// P7.1: Days is 0 for years, months and days that do not exist.
func TestDaysOfNoDates(t *testing.T) {
	dates := [][3]int{
		{0, 1, 1}, {0, 2, 29}, {0, 12, 31}, {-1, 1, 1}, {-4, 2, 29}, {-400, 2, 29}, {10000, 1, 1}, {10000, 2, 29}, {10000, 12, 31}, {10001, 6, 15},
		{2000, 0, 1}, {2000, 13, 1}, {2000, -1, 1}, {2000, 14, 1}, {1999, 13, 31}, {1, 0, 31}, {9999, 13, 1},
		{100, 2, 29}, {1900, 2, 29}, {2100, 2, 29}, {2023, 2, 29}, {4, 2, 30}, {400, 2, 30}, {2000, 2, 30}, {2024, 2, 30}, {2000, 2, 31},
		{2000, 1, -1}, {2000, 1, 366}, {1, 1, 0}, {9999, 12, 32}, {0, 0, 0}, {10000, 13, 32},
	}
	for _, y := range []int{1, 4, 100, 400, 1900, 1970, 2000, 2023, 2024, 9999} {
		for m := 1; m <= 12; m++ {
			dates = append(dates, [3]int{y, m, 0}, [3]int{y, m, lengthOf(y, m) + 1})
		}
	}
	for _, n := range extremes {
		dates = append(dates, [3]int{n, 1, 2}, [3]int{2000, n, 2}, [3]int{2000, 1, n})
		for _, m := range extremes {
			dates = append(dates, [3]int{n, m, 2}, [3]int{n, 2, m}, [3]int{2000, n, m}, [3]int{n, m, n})
		}
	}
	for _, c := range dates {
		if got := date.Days(c[0], c[1], c[2]); got != 0 {
			t.Errorf("Days(%d, %d, %d) = %d, want 0", c[0], c[1], c[2], got)
		}
	}
}

// P7.1: Civil is 0, 0, 0 for the numbers beyond the first and the last day.
func TestCivilOfNoDates(t *testing.T) {
	numbers := append([]int{firstDay - 1, firstDay - 2, firstDay - 366, -1 << 40, -719528, -719468, lastDay + 1, lastDay + 2, lastDay + 366, 1 << 40}, extremes...)
	for _, n := range numbers {
		if y, m, d := date.Civil(n); y != 0 || m != 0 || d != 0 {
			t.Errorf("Civil(%d) = %d, %d, %d, want zeros", n, y, m, d)
		}
	}
}

// P7.1, P7.4: from the first day to the last one, consecutive day numbers are consecutive days of the calendar and of the week.
func TestEveryDay(t *testing.T) {
	// The first day is a Monday.
	days, weekday := firstDay, 1
	for y := 1; y <= 9999; y++ {
		for m := 1; m <= 12; m++ {
			for d := 1; d <= lengthOf(y, m); d++ {
				if got := date.Days(y, m, d); got != days {
					t.Fatalf("Days(%d, %d, %d) = %d, want %d", y, m, d, got, days)
				}
				if a, b, c := date.Civil(days); a != y || b != m || c != d {
					t.Fatalf("Civil(%d) = %d, %d, %d, want %d, %d, %d", days, a, b, c, y, m, d)
				}
				if got := date.Weekday(days); got != weekday {
					t.Fatalf("Weekday(%d) = %d, want %d", days, got, weekday)
				}
				days, weekday = days+1, (weekday+1)%7
			}
		}
	}
	if days != lastDay+1 {
		t.Errorf("there are days up to %d", days-1)
	}
}

// P7.1: Weekday of any integer.
func TestWeekday(t *testing.T) {
	for _, c := range []struct{ days, want int }{
		{0, 4}, {1, 5}, {2, 6}, {3, 0}, {4, 1}, {5, 2}, {6, 3}, {7, 4},
		{-1, 3}, {-2, 2}, {-3, 1}, {-4, 0}, {-5, 6}, {-6, 5}, {-7, 4}, {-8, 3},
		{10957, 6}, {20000, 5}, {-25567, 1}, {-141428, 4}, {-141427, 5},
		{firstDay, 1}, {firstDay - 1, 0}, {firstDay - 2, 6}, {lastDay, 5}, {lastDay + 1, 6}, {lastDay + 2, 0},
		{api.MaxInt, 4}, {api.MaxInt - 1, 3}, {api.MaxInt - 4, 0}, {api.MaxInt - 5, 6},
		{api.MinInt, 3}, {api.MinInt + 1, 4}, {api.MinInt + 3, 6}, {api.MinInt + 4, 0},
	} {
		if got := date.Weekday(c.days); got != c.want {
			t.Errorf("Weekday(%d) = %d, want %d", c.days, got, c.want)
		}
	}
	for n := range 1000 {
		for _, days := range []int{-n, n, api.MaxInt - 1 - n, api.MinInt + n} {
			if got, next := date.Weekday(days), date.Weekday(days+1); got < 0 || got > 6 || next != (got+1)%7 {
				t.Errorf("Weekday(%d) = %d, but %d for the next day", days, got, next)
			}
		}
	}
}
