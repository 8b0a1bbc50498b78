package date

const (
	lastYear = 9999
	// firstDay and lastDay are the day numbers of 1 January 1 and of 31 December 9999.
	firstDay = -719162
	lastDay  = 2932896
	// The calendar repeats itself after cycleYears, which have cycleDays.
	cycleYears = 400
	cycleDays  = 146097
	weekDays   = 7
	// epochWeekday is the weekday of 1 January 1970, a Thursday.
	epochWeekday = 4
)

// Days returns the day number of a date, or 0 if the date does not exist.
func Days(y, m, d int) int {
	if !exists(y, m, d) {
		return 0
	}
	days := firstDay + daysBefore(y) + d - 1
	for before := 1; before < m; before++ {
		days += monthDays(y, before)
	}
	return days
}

// Civil returns the year, month and day of a day number, or zeros if they lie outside the years 1 to 9999.
func Civil(days int) (int, int, int) {
	if days < firstDay || days > lastDay {
		return 0, 0, 0
	}
	left := days - firstDay
	y := 1 + left*cycleYears/cycleDays
	// Counted in years of the mean length, the first days of some years still fall into the year before, but no day falls into a later one.
	if left >= daysBefore(y+1) {
		y++
	}
	left -= daysBefore(y)
	m := 1
	for left >= monthDays(y, m) {
		left -= monthDays(y, m)
		m++
	}
	return y, m, left + 1
}

// Weekday returns the weekday of a day number, from 0 for Sunday to 6 for Saturday.
func Weekday(days int) int {
	// The remainder comes first, so that no sum overflows; it is negative before 1970.
	return (days%weekDays + weekDays + epochWeekday) % weekDays
}

// exists reports whether there is such a date in the years 1 to 9999.
func exists(y, m, d int) bool {
	return 1 <= y && y <= lastYear && 1 <= m && m <= len(months) && 1 <= d && d <= monthDays(y, m)
}

// monthDays returns the length of a month.
func monthDays(y, m int) int {
	switch m {
	case 2:
		if isLeap(y) {
			return 29
		}
		return 28
	case 4, 6, 9, 11:
		return 30
	}
	return 31
}

func isLeap(y int) bool { return y%4 == 0 && y%100 != 0 || y%400 == 0 }

// daysBefore returns how many days lie between the beginning of the year 1 and that of the year y.
func daysBefore(y int) int {
	years := y - 1
	return 365*years + years/4 - years/100 + years/400
}
