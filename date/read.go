package date

import (
	"strings"

	"pouch/api"
	"pouch/num"
)

// blanks are the bytes that separate words; comments separate them too.
const blanks = "\t\n\r ,"

// Read parses a date string.
func Read(s string) (api.Time, bool) {
	next := wordSplitter(s)
	word := next()
	if isWeekday(word) {
		word = next()
	}
	days, dated := readDate(word, next(), next())
	second, timed := readClock(next())
	zone, zoned := readZone(next())
	if !dated || !timed || !zoned || next() != "" {
		return api.Time{}, false
	}
	t := api.Time{Unix: days*daySeconds + second - zone*minuteSeconds, Zone: zone}
	if !Right(t) {
		return api.Time{}, false
	}
	return t, true
}

// wordSplitter returns a function that splits the next word off s, the empty one when no word is left.
func wordSplitter(s string) func() string {
	return func() string {
		s = s[gapLength(s):]
		length := strings.IndexAny(s, blanks+"(")
		if length < 0 {
			length = len(s)
		}
		word := s[:length]
		s = s[length:]
		return word
	}
}

// gapLength returns the length of the blanks and comments that s starts with.
func gapLength(s string) int {
	length := 0
	for length < len(s) {
		switch {
		case strings.IndexByte(blanks, s[length]) >= 0:
			length++
		case s[length] == '(':
			length += commentLength(s[length:])
		default:
			return length
		}
	}
	return length
}

// commentLength returns the length of the comment that s starts with.
func commentLength(s string) int {
	depth := 0
	for i := 0; i < len(s); i++ {
		switch s[i] {
		case '\\':
			// The byte behind it neither opens nor closes a comment.
			i++
		case '(':
			depth++
		case ')':
			depth--
			if depth == 0 {
				return i + 1
			}
		}
	}
	return len(s)
}

// readDate returns the day number of a date in words.
func readDate(day, month, year string) (int, bool) {
	// What is no day, month or year is 0 here, and no date has a 0.
	d, _ := number(day, 31)
	m, y := monthNumber(month), yearNumber(year)
	if len(day) > 2 || !exists(y, m, d) {
		return 0, false
	}
	return Days(y, m, d), true
}

// readClock returns the second of the day that a time of day denotes.
func readClock(word string) (int, bool) {
	const withSeconds, withoutSeconds = len("hh:mm:ss"), len("hh:mm")
	if len(word) == withoutSeconds {
		word += ":00"
	}
	if len(word) != withSeconds || word[2] != ':' || word[5] != ':' {
		return 0, false
	}
	hour, hourRead := number(word[:2], 23)
	minute, minuteRead := number(word[3:5], 59)
	second, secondRead := number(word[6:], 60)
	if !hourRead || !minuteRead || !secondRead {
		return 0, false
	}
	// A leap second is read as the second before it.
	return hour*hourSeconds + minute*minuteSeconds + min(second, 59), true
}

// readZone returns the minutes that a zone denotes; the empty word stands for a missing one.
func readZone(word string) (int, bool) {
	if strings.HasPrefix(word, "+") || strings.HasPrefix(word, "-") {
		return readOffset(word)
	}
	if len(word) > 5 || strings.ContainsFunc(word, isNoLetter) {
		return 0, false
	}
	return hourMinutes * zoneHours(word), true
}

// readOffset returns the minutes that a sign and four digits denote.
func readOffset(word string) (int, bool) {
	if len(word) != len("+hhmm") {
		return 0, false
	}
	hours, hoursRead := number(word[1:3], 23)
	minutes, minutesRead := number(word[3:], 59)
	if !hoursRead || !minutesRead {
		return 0, false
	}
	zone := hours*hourMinutes + minutes
	if word[0] == '-' {
		zone = -zone
	}
	return zone, true
}

// zoneHours returns the hours that the name of a zone denotes.
func zoneHours(name string) int {
	switch strings.ToUpper(name) {
	case "EDT":
		return -4
	case "EST", "CDT":
		return -5
	case "CST", "MDT":
		return -6
	case "MST", "PDT":
		return -7
	case "PST":
		return -8
	}
	// UT, GMT and Z are at 0, and names without a meaning count as they do.
	return 0
}

func isNoLetter(r rune) bool { return (r < 'A' || r > 'Z') && (r < 'a' || r > 'z') }

// number reads digits, with or without leading zeros, as an integer of at most high.
func number(digits string, high int) (int, bool) {
	// num.Parse takes no leading zeros, but the last digit may be the only one.
	last := max(0, len(digits)-1)
	return num.Parse(strings.TrimLeft(digits[:last], "0")+digits[last:], 0, high)
}

// monthNumber returns the number of the month of that name, or 0 if there is none.
func monthNumber(word string) int {
	for i, name := range months {
		if isName(word, name) {
			return i + 1
		}
	}
	return 0
}

// yearNumber returns the year that two, three or four digits denote, or 0 if the word has another form.
func yearNumber(word string) int {
	y, ok := number(word, lastYear)
	switch {
	case !ok:
		return 0
	case len(word) == 2 && y < 50:
		return 2000 + y
	case len(word) == 2, len(word) == 3:
		return 1900 + y
	case len(word) == 4:
		return y
	}
	return 0
}

func isWeekday(word string) bool {
	for _, name := range weekdays {
		if isName(word, name) {
			return true
		}
	}
	return false
}

// isName reports whether a word is that name of ASCII letters, in any case.
func isName(word, name string) bool {
	// EqualFold alone would take the long s for an s, but that rune has two bytes.
	return len(word) == len(name) && strings.EqualFold(word, name)
}
