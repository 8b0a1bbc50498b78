package date_test

import (
	"regexp"
	"strconv"
	"strings"
	"testing"
	"time"

	"pouch/api"
	"pouch/date"
	"pouch/samples"
)

// form is a date string in lower case, with one space between its words.
var form = regexp.MustCompile(`\A(?:(?:mon|tue|wed|thu|fri|sat|sun) )?` +
	`([0-9]{1,2}) (jan|feb|mar|apr|may|jun|jul|aug|sep|oct|nov|dec) ([0-9]{2,4}) ` +
	`([01][0-9]|2[0-3]):([0-5][0-9])(?::([0-5][0-9]|60))?` +
	`(?: (?:([+-])([01][0-9]|2[0-3])([0-5][0-9])|([a-z]{1,5})))?\z`)

// withoutComments is s with a space in place of each comment.
func withoutComments(s string) string {
	var text strings.Builder
	depth, escaped := 0, false
	for i := range len(s) {
		switch c := s[i]; {
		case escaped:
			escaped = false
		case c == '(':
			depth++
			text.WriteByte(' ')
		case depth == 0:
			text.WriteByte(c)
		case c == ')':
			depth--
		case c == '\\':
			escaped = true
		}
	}
	return text.String()
}

// plain is s in lower case, with one space between its words.
func plain(s string) string {
	lower := strings.Map(func(r rune) rune {
		if 'A' <= r && r <= 'Z' {
			return r + 32
		}
		return r
	}, withoutComments(s))
	return strings.Join(strings.FieldsFunc(lower, func(r rune) bool { return strings.ContainsRune("\t\n\r ,", r) }), " ")
}

// numberOf is the integer of some digits, 0 if there are none.
func numberOf(digits string) int {
	n, _ := strconv.Atoi(digits)
	return n
}

// fullYear is the year that two to four digits denote.
func fullYear(digits string) int {
	y := numberOf(digits)
	switch {
	case len(digits) == 2 && y < 50:
		return y + 2000
	case len(digits) < 4:
		return y + 1900
	}
	return y
}

// zoneOf is the zone that a word denotes.
func zoneOf(sign, hours, minutes, name string) int {
	named := map[string]int{"est": -300, "edt": -240, "cst": -360, "cdt": -300, "mst": -420, "mdt": -360, "pst": -480, "pdt": -420}
	zone := numberOf(hours)*60 + numberOf(minutes) + named[name]
	if sign == "-" {
		return -zone
	}
	return zone
}

// wanted is what Read answers, worked out by another calendar.
func wanted(s string) (api.Time, bool) {
	m := form.FindStringSubmatch(plain(s))
	if m == nil {
		return api.Time{}, false
	}
	year, month, day := fullYear(m[3]), 1+strings.Index("janfebmaraprmayjunjulaugsepoctnovdec", m[2])/3, numberOf(m[1])
	c := time.Date(year, time.Month(month), day, numberOf(m[4]), numberOf(m[5]), min(numberOf(m[6]), 59), 0, time.UTC)
	zone := zoneOf(m[7], m[8], m[9], m[10])
	unix := int(c.Unix()) - 60*zone
	if year < 1 || year > 9999 || c.Day() != day || unix < firstSecond || unix > lastSecond {
		return api.Time{}, false
	}
	return api.Time{Unix: unix, Zone: zone}, true
}

// check holds Read of s against what is wanted of it.
func check(t *testing.T, s string) {
	t.Helper()
	want, wantOK := wanted(s)
	if got, ok := date.Read(s); got != want || ok != wantOK {
		t.Errorf("Read(%.90q) = %d, %v, want %d, %v", s, got, ok, want, wantOK)
	}
}

// checkRead holds Read of s against a time that is written out.
func checkRead(t *testing.T, s string, want api.Time) {
	t.Helper()
	if got, ok := date.Read(s); got != want || !ok {
		t.Errorf("Read(%.90q) = %d, %v, want %d, true", s, got, ok, want)
	}
}

// checkWrong asks that Read rejects s.
func checkWrong(t *testing.T, s string) {
	t.Helper()
	if got, ok := date.Read(s); got != (api.Time{}) || ok {
		t.Errorf("Read(%.90q) = %d, %v, want the zero time, false", s, got, ok)
	}
}

// P7.3: dates in full and with parts left out.
func TestReadOfKnownDates(t *testing.T) {
	for _, c := range []struct {
		s          string
		unix, zone int
	}{
		{"Thu, 1 Jan 1970 01:00:30 +0100", 30, 60},
		{"Thu, 01 Jan 1970 00:00:00 +0000", 0, 0},
		{"Thu 1 Jan 1970 00:00:09", 9, 0},
		{"Thu 1 Jan 1970 00:00", 0, 0},
		{"1 Jan 1970 00:00", 0, 0},
		{"1 Jan 1970 00:01 GMT", 60, 0},
		{"1 Jan 1970 00:00:59 -0000", 59, 0},
		{"1 Jan 1970 23:59:59", 86399, 0},
		{"Tue, 29 Feb 2000 13:29:59 -1030", 951868799, -630},
		{"Mon, 02 Jan 2006 15:04:05 -0700", 1136239445, -420},
		{"Mon, 02 Jan 2006 15:04:05 MST", 1136239445, -420},
		{"Tue, 14 Nov 23 22:13:20 UT", 1700000000, 0},
		// The weekday is not checked against the date.
		{"Sun, 1 Jan 1970 00:00:09", 9, 0},
		{"Mon 29 Feb 2000 00:00", 951782400, 0},
		// Before 1970.
		{"31 Dec 1969 23:59:59", -1, 0},
		{"1 Jan 1970 00:00 +0001", -60, 1},
		{"31 Dec 1969 23:59 -0001", 0, -1},
	} {
		checkRead(t, c.s, api.Time{Unix: c.unix, Zone: c.zone})
		check(t, c.s)
	}
}

// P7.3: the names of months and weekdays, in any case.
func TestReadOfNames(t *testing.T) {
	days := 0
	for i, name := range []string{"Jan", "Feb", "Mar", "Apr", "May", "Jun", "Jul", "Aug", "Sep", "Oct", "Nov", "Dec"} {
		for _, month := range spellings(name) {
			checkRead(t, "1 "+month+" 1970 00:00", api.Time{Unix: days * 86400})
			for _, wrong := range []string{month[:2], month[1:], month + "e", "x" + month, month + ".", month + "\x00"} {
				checkWrong(t, "1 "+wrong+" 1970 00:00")
			}
		}
		days += lengthOf(1970, i+1)
	}
	for _, name := range []string{"Mon", "Tue", "Wed", "Thu", "Fri", "Sat", "Sun"} {
		for _, weekday := range spellings(name) {
			checkRead(t, weekday+" 1 Jan 1970 00:00", api.Time{})
			checkWrong(t, "1 "+weekday+" 1970 00:00")
			checkWrong(t, "1 Jan 1970 "+weekday+" 00:00")
			for _, wrong := range []string{weekday[:2], weekday[1:], weekday + "d", weekday + ".", weekday + weekday, "x" + weekday, weekday + " " + weekday} {
				checkWrong(t, wrong+" 1 Jan 1970 00:00")
			}
		}
	}
	for _, wrong := range []string{
		// The long s and the dotted capital I are no ASCII letters of another case.
		"\u017fun 1 Jan 1970 00:00", "\u017fat 1 Jan 1970 00:00", "Fr\u0130 1 Jan 1970 00:00", "Fr\u0131 1 Jan 1970 00:00",
		"1 \u017fep 1970 00:00", "1 Augu\u017ft 1970 00:00", "1 January 1970 00:00", "1 13 1970 00:00", "1 1 1970 00:00", "1 Xyz 1970 00:00",
		"1 \xff\xff\xff 1970 00:00", "1 J\xe4n 1970 00:00", "1 JAN. 1970 00:00", "Monday 1 Jan 1970 00:00", "Xyz 1 Jan 1970 00:00", "Jan 1 1970 00:00", "1 jAm 1970 00:00",
		"1 \x2aan 1970 00:00", "1 jan@ 1970 00:00", "1 [an 1970 00:00",
	} {
		checkWrong(t, wrong)
		check(t, wrong)
	}
}

// spellings lists a name of three letters in every mixture of cases.
func spellings(name string) []string {
	var list []string
	for mask := range 8 {
		chars := []byte(strings.ToLower(name))
		for i := range chars {
			if mask>>i&1 == 1 {
				chars[i] -= 32
			}
		}
		list = append(list, string(chars))
	}
	return list
}

// P7.3: a day has one or two digits and exists in its month.
func TestReadOfDays(t *testing.T) {
	names := []string{"Jan", "Feb", "Mar", "Apr", "May", "Jun", "Jul", "Aug", "Sep", "Oct", "Nov", "Dec"}
	for _, y := range []int{1, 4, 100, 400, 1900, 1970, 2000, 2023, 2024, 9999} {
		year := strings.Repeat("0", 4-len(strconv.Itoa(y))) + strconv.Itoa(y)
		for m := 1; m <= 12; m++ {
			tail := " " + names[m-1] + " " + year + " 00:00"
			checkWrong(t, "0"+tail)
			checkWrong(t, "00"+tail)
			checkWrong(t, strconv.Itoa(lengthOf(y, m)+1)+tail)
			for d := 1; d <= lengthOf(y, m); d++ {
				want := api.Time{Unix: int(time.Date(y, time.Month(m), d, 0, 0, 0, 0, time.UTC).Unix())}
				checkRead(t, strconv.Itoa(d)+tail, want)
				checkWrong(t, "0"+strconv.Itoa(d+10)+tail)
				checkWrong(t, "00"+strconv.Itoa(d)+tail)
				if d < 10 {
					checkRead(t, "0"+strconv.Itoa(d)+tail, want)
				}
			}
		}
	}
	for _, day := range []string{"+1", "-1", "-0", "1.", "1st", "x", "1x", "x1", "\u0661", "1-", "0x1", "32", "99", "100", "001", "1_0", "\x001", "18446744073709551617", strings.Repeat("0", 999) + "1"} {
		checkWrong(t, day+" Jan 1970 00:00")
		check(t, day+" Jan 1970 00:00")
	}
}

// P7.3: a year has two, three or four digits.
func TestReadOfYears(t *testing.T) {
	for _, c := range []struct {
		word string
		year int
	}{
		{"00", 2000}, {"01", 2001}, {"09", 2009}, {"10", 2010}, {"48", 2048}, {"49", 2049}, {"50", 1950}, {"51", 1951}, {"69", 1969}, {"70", 1970}, {"99", 1999},
		{"000", 1900}, {"001", 1901}, {"049", 1949}, {"050", 1950}, {"070", 1970}, {"099", 1999}, {"100", 2000}, {"126", 2026}, {"999", 2899},
		{"0001", 1}, {"0002", 2}, {"0049", 49}, {"0050", 50}, {"0099", 99}, {"0100", 100}, {"0999", 999}, {"1000", 1000}, {"1899", 1899}, {"1970", 1970}, {"2049", 2049}, {"9999", 9999},
	} {
		s := "1 Mar " + c.word + " 00:00"
		checkRead(t, s, api.Time{Unix: int(time.Date(c.year, 3, 1, 0, 0, 0, 0, time.UTC).Unix())})
		check(t, s)
	}
	for _, word := range []string{"0", "1", "7", "9", "0000", "00000", "00001", "01970", "10000", "19700", "99999", "-1", "-01", "-001", "+70", "+970", "-970", "1 970", "19 70", "70.", "7o", "197O", "0x7b", "1e3", "\u0661\u0662", "18446744073709553586", "x", "'70"} {
		checkWrong(t, "1 Mar "+word+" 00:00")
		check(t, "1 Mar "+word+" 00:00")
	}
	// The leap days of two and three digits are those of the year that is meant.
	for _, c := range []struct {
		word string
		leap bool
	}{{"00", true}, {"04", true}, {"000", false}, {"100", true}, {"200", false}, {"48", true}, {"50", false}, {"52", true}, {"0100", false}, {"0004", true}} {
		if _, ok := date.Read("29 Feb " + c.word + " 00:00"); ok != c.leap {
			t.Errorf("the 29 February of %q: %v", c.word, ok)
		}
	}
}

// P7.3: hours, minutes and seconds have two digits and their limits.
func TestReadOfClocks(t *testing.T) {
	for a := range 100 {
		two := strconv.Itoa(a/10) + strconv.Itoa(a%10)
		for _, c := range []struct {
			clock        string
			limit, scale int
		}{{two + ":00", 24, 3600}, {two + ":00:00", 24, 3600}, {"00:" + two, 60, 60}, {"00:" + two + ":00", 60, 60}, {"00:00:" + two, 60, 1}} {
			switch s := "1 Jan 1970 " + c.clock; {
			case a < c.limit:
				checkRead(t, s, api.Time{Unix: a * c.scale})
			case a == 60 && c.scale == 1:
				checkRead(t, s, api.Time{Unix: 59})
			default:
				checkWrong(t, s)
			}
		}
	}
	checkRead(t, "31 Dec 1969 23:59:60", api.Time{Unix: -1})
	checkRead(t, "31 Dec 9999 23:59:60", api.Time{Unix: lastSecond})
	for _, clock := range []string{
		"24:00", "23:60", "23:59:61", "24:00:00", "23:60:00", "99:99:99",
		"0:00", "00:0", "0:00:00", "00:0:00", "00:00:0", "000:00", "00:000", "00:00:000", "000:00:00", "00:000:00", "0:000", "000:0",
		"00", "0000", "000000", "00:", ":00", ":", "::", "00:00:", ":00:00", "00::00", "00:00:00:00", "00:00:00:", "00:00:00.5", "00:00.5",
		"00.00", "00-00", "00:00.00", "00.00:00", "00 :00", "00: 00", "00 00", "00:00 :00", "+1:00", "-1:00", "00:+1", "00:-1", "00:-0", "00:00:+1", "00:00:-1",
		"a0:00", "0a:00", "00:a0", "00:0a", "00:00:a0", "00:00:0a", "\u0661:00", "00:\u0661", "12:00pm", "00;00", "00:00;00", "\xff\xff:00",
	} {
		checkWrong(t, "1 Jan 1970 "+clock)
		checkWrong(t, "1 Jan 1970 "+clock+" +0000")
		check(t, "1 Jan 1970 "+clock)
	}
}

// P7.3: zones by name, in any case.
func TestReadOfZoneNames(t *testing.T) {
	hours := map[string]int{"EST": -5, "EDT": -4, "CST": -6, "CDT": -5, "MST": -7, "MDT": -6, "PST": -8, "PDT": -7, "UTC": 0, "GMT": 0, "xyz": 0, "Jan": 0, "Mon": 0}
	for name, h := range hours {
		for _, zone := range spellings(name) {
			checkRead(t, "1 Jan 1970 00:00 "+zone, api.Time{Unix: -h * 3600, Zone: h * 60})
			checkRead(t, "Thu, 1 Jan 1970 00:00:07 "+zone, api.Time{Unix: 7 - h*3600, Zone: h * 60})
			// A longer name has no meaning of its own.
			checkRead(t, "1 Jan 1970 00:00 "+zone+"x", api.Time{})
			checkRead(t, "1 Jan 1970 00:00 x"+zone, api.Time{})
		}
	}
	for _, zone := range []string{"UT", "ut", "uT", "Ut", "Z", "z", "A", "a", "M", "PT", "ES", "ST", "ESTx", "xEST", "PDTS", "abcd", "CEST", "abcde", "ZZZZZ", "AZaz"} {
		checkRead(t, "1 Jan 1970 00:00 "+zone, api.Time{})
		checkRead(t, "1 Jan 1970 00:00:05 "+zone, api.Time{Unix: 5})
	}
	for _, zone := range []string{
		"abcdef", "ABCDEF", "ESTEST", "abcdefg", "a1", "1a", "EST5", "Z0", "0Z", "a1b", "1", "12345", "0000", "0100", "a-", "-a", "+a", "A/B", "E.T", "EST.", "'Z'", "[", "`", "@", "{", "a[", "a`", "a@", "a{",
		"\u00e9", "\u017fT", "P\u017fT", "\xff", "a\xff", "a\x00", "a_b", "\"Z\"", ")", "Z)",
	} {
		checkWrong(t, "1 Jan 1970 00:00 "+zone)
		checkWrong(t, "1 Jan 1970 00:00:00 "+zone)
		check(t, "1 Jan 1970 00:00 "+zone)
	}
}

// P7.3: every byte as a zone, and within one.
func TestReadOfZonesOfEveryByte(t *testing.T) {
	all := samples.AllBytes()
	for b := range len(all) {
		char := all[b : b+1]
		for _, zone := range []string{char, "a" + char, char + "a", "ab" + char + "cd", "PS" + char, char + "ST", "+01" + char + "0", char + "0100"} {
			check(t, "1 Jan 1970 00:00 "+zone)
		}
	}
}

// P7.3: zones of a sign and four digits.
func TestReadOfOffsets(t *testing.T) {
	for hh := range 100 {
		for mm := range 100 {
			digits := string([]byte{'0' + byte(hh/10), '0' + byte(hh%10), '0' + byte(mm/10), '0' + byte(mm%10)})
			zone := 60*hh + mm
			if hh > 23 || mm > 59 {
				checkWrong(t, "1 Jan 1970 00:00 +"+digits)
				checkWrong(t, "1 Jan 1970 00:00 -"+digits)
				continue
			}
			checkRead(t, "1 Jan 1970 00:00 +"+digits, api.Time{Unix: -60 * zone, Zone: zone})
			checkRead(t, "1 Jan 1970 00:00 -"+digits, api.Time{Unix: 60 * zone, Zone: -zone})
		}
	}
	for _, zone := range []string{
		"+", "-", "+0", "+00", "+000", "+100", "-100", "+00000", "-00000", "+01000", "-01000", "+010", "+2400", "-2400", "+0060", "-0060", "+2360", "+9999",
		"0100", "++100", "+-100", "-+100", "--100", "+01+0", "+01-1", "+-1-1", "+1 00", "+ 0100", "+01 00", "+01:00", "+0a00", "+a000", "+00a0", "+000a", "\u22120100", "\uff0b0100", "+0100x", "x+0100", "GMT+1", "+\u0661\u0661", "+0100+0100", "*0100", ".0100",
	} {
		checkWrong(t, "1 Jan 1970 00:00 "+zone)
		checkWrong(t, "1 Jan 1970 00:00:00 "+zone)
		check(t, "1 Jan 1970 00:00 "+zone)
	}
}

// P7.3: what a zone carries beyond the first or the last valid second is rejected.
func TestReadAtTheEnds(t *testing.T) {
	for _, c := range []struct {
		s          string
		unix, zone int
	}{
		{"1 Jan 0001 00:00", firstSecond, 0},
		{"1 Jan 0001 00:00:00 +0000", firstSecond, 0},
		{"1 Jan 0001 00:01 +0001", firstSecond, 1},
		{"1 Jan 0001 23:59 +2359", firstSecond, 1439},
		{"1 Jan 0001 00:00 -0001", firstSecond + 60, -1},
		{"1 Jan 0001 00:00 -2359", firstSecond + 1439*60, -1439},
		{"31 Dec 9999 23:59:59", lastSecond, 0},
		{"31 Dec 9999 23:58:59 -0001", lastSecond, -1},
		{"31 Dec 9999 00:00:59 -2359", lastSecond, -1439},
		{"31 Dec 9999 23:59:59 +0001", lastSecond - 60, 1},
		{"31 Dec 9999 23:59:59 +2359", lastSecond - 1439*60, 1439},
	} {
		checkRead(t, c.s, api.Time{Unix: c.unix, Zone: c.zone})
		check(t, c.s)
	}
	for _, s := range []string{
		"1 Jan 0001 00:00 +0001", "1 Jan 0001 00:00:59 +0001", "1 Jan 0001 00:59:59 +0100", "1 Jan 0001 23:58:59 +2359", "1 Jan 0001 00:00 +2359",
		"31 Dec 9999 23:59:00 -0001", "31 Dec 9999 23:59:59 -0001", "31 Dec 9999 19:00 EST", "31 Dec 9999 20:00 EDT", "31 Dec 9999 16:00 PST", "31 Dec 9999 00:01 -2359", "31 Dec 9999 23:59:59 -2359",
	} {
		checkWrong(t, s)
		check(t, s)
	}
}

// words are those of a date in full.
func words() []string { return []string{"Thu", "1", "Jan", "1970", "01:00:30", "+0100"} }

// join puts the gap before and behind every word.
func join(list []string, gap string) string { return gap + strings.Join(list, gap) + gap }

// P7.3: commas, the four blanks and comments separate words, at every place and in any number.
func TestReadOfGaps(t *testing.T) {
	for _, gap := range []string{
		" ", ",", "\t", "\r", "\n", "\r\n", "\r\n ", "  ", ",,", " , ", "\t\t,\r\n\t,", strings.Repeat(" \t\r\n,", 1000),
		"()", "(a)", " (a) ", "(a)(b)", "(a) (b)", "((a))", "(a(b)c)", "(a(b(c)d)e(f)g)", "(((((())))))", "()()", "(a b, 1 Jan)", "(\x00\xff)", "(\u00e9)", "(\r\n)",
		"(\\))", "(\\()", "(\\\\)", "(a\\)b)", "(a\\(b)", "(\\a)", "(\\\\(\\\\))", "(\\)\\))", "((\\))a)", "(a\\\\)", "(\\\r\n)", "(\\,)", "(\"(\")\")", "('(')\")",
		strings.Repeat("(", 1000) + strings.Repeat(")", 1000), strings.Repeat("(a\\))", 1000),
	} {
		checkRead(t, join(words(), gap), api.Time{Unix: 30, Zone: 60})
		for i := range words() {
			list := words()
			list[i] += gap
			checkRead(t, strings.Join(list, " "), api.Time{Unix: 30, Zone: 60})
			list = words()
			list[i] = gap + list[i]
			checkRead(t, strings.Join(list, " "), api.Time{Unix: 30, Zone: 60})
			// Inside a word of several bytes, a gap splits it into two.
			if list = words(); len(list[i]) > 1 {
				list[i] = list[i][:1] + gap + list[i][1:]
				checkWrong(t, strings.Join(list, " "))
			}
		}
	}
	for _, gap := range []string{"", "\v", "\f", "\x00", ".", ";", "\u00a0", "\u0085", "\u2003", "\xa0", "\x85", "/", "-", ")", "\\", "\\(", "\\(a)", "\"", "[a]", "<a>", "{a}", "a", "0"} {
		checkWrong(t, join(words(), gap))
		check(t, join(words(), gap))
		for i := range words() {
			list := words()
			list[i] += gap
			check(t, strings.Join(list, " "))
			list = words()
			list[i] = gap + list[i]
			check(t, strings.Join(list, " "))
		}
	}
}

// P7.3: a comment without an end hides what follows it, and a parenthesis that closes none belongs to a word.
func TestReadOfOpenComments(t *testing.T) {
	full := api.Time{Unix: 30, Zone: 60}
	for _, s := range []string{
		"Thu, 1 Jan 1970 01:00:30 +0100(", "Thu, 1 Jan 1970 01:00:30 +0100 (", "Thu, 1 Jan 1970 01:00:30 +0100 (CET", "Thu, 1 Jan 1970 01:00:30 +0100 (CET\\",
		"Thu, 1 Jan 1970 01:00:30 +0100 (CET\\)", "Thu, 1 Jan 1970 01:00:30 +0100 (CET(a)", "Thu, 1 Jan 1970 01:00:30 +0100 ((CET)", "Thu, 1 Jan 1970 01:00:30 +0100 (CET) (",
		"Thu, 1 Jan 1970 01:00:30 +0100 ( 1 Jan 1970", "Thu, 1 Jan 1970 01:00:30 +0100 (\\\\\\)", "(\\(())Thu(), 1 Jan 1970 01:00:30 +0100(\\",
	} {
		checkRead(t, s, full)
		check(t, s)
	}
	// What is hidden may be the zone alone, or more.
	checkRead(t, "1 Jan 1970 00:00 (+0100", api.Time{})
	checkRead(t, "1 Jan 1970 00:00(:30 +0100", api.Time{})
	for _, s := range []string{
		"(", "()", "(\\", "((", "(c) (d", "(1 Jan 1970 00:00", "((1) Jan 1970 00:00", "1( Jan 1970 00:00", "1 Jan (1970 00:00", "1 Jan 1970 (00:00", "1 (Jan 1970 00:00", "1 Jan 1970 (\\) 00:00", "1 Jan 1970 0(0:00",
		")", "1 Jan 1970 00:00)", "1 Jan 1970 00:00 )", "1) Jan 1970 00:00", ") 1 Jan 1970 00:00", "1 Jan 1970 00:00 (a))", "1 Jan 1970 00:00 a)", "1 Jan 1970 00:00 \\(a)", "1 \\ Jan 1970 00:00", "1\\ Jan 1970 00:00",
		"1 Jan 1970 00:00 (a) (b)) ", "1 (a\\\\)) Jan 1970 00:00",
	} {
		checkWrong(t, s)
		check(t, s)
	}
}

// P7.3: no words, a word missing, a word too many, and words in another order.
func TestReadOfOtherWords(t *testing.T) {
	for _, s := range []string{"", " ", ",", "\r\n", "\t , \t", "\x00", "x", "1", "Thu", "Thu,", "Jan", "1970", "00:00", "+0100", "1970-01-01T00:00:00Z", "Thu Jan  1 00:00:00 1970", "Thu, 1-Jan-70 00:00:00 GMT", "1Jan 1970 00:00", "1 Jan1970 00:00", "1 Jan 1970 00:00+0100"} {
		checkWrong(t, s)
		check(t, s)
	}
	full := words()
	for i := range full {
		missing := strings.Join(append(append([]string{}, full[:i]...), full[i+1:]...), " ")
		if i > 0 && i < 5 {
			checkWrong(t, missing)
		}
		check(t, missing)
		checkWrong(t, strings.Join(full[:min(i, 4)], " "))
		if i > 0 {
			checkWrong(t, strings.Join(full[i+1:], " "))
		}
		for j := range full {
			swapped := append([]string{}, full...)
			swapped[i], swapped[j] = swapped[j], swapped[i]
			if i != j {
				checkWrong(t, strings.Join(swapped, " "))
			}
			for _, extra := range []string{full[j], "x", "0", "Z", "Thu", "+0000", ":", ")"} {
				check(t, strings.Join(append(append(append([]string{}, full[:i]...), extra), full[i:]...), " "))
			}
		}
	}
	for _, tail := range []string{"Z", "x", "+0100", "1", ".", "00:00", "Thu", "(a) x", ", x", "abcdef", ")", "x y"} {
		checkWrong(t, strings.Join(full, " ")+" "+tail)
		checkWrong(t, "1 Jan 1970 00:00 Z "+tail)
	}
}

// P7.3: words of every kind, right ones and wrong ones, two at a time.
func TestReadOfMixedWords(t *testing.T) {
	choices := [][]string{
		{"", "Thu", "SUN", "sat,", "Sunday", "Thu.", "Xyz", "1"},
		{"1", "01", "9", "28", "29", "30", "31", "32", "0", "00", "001", "", "x"},
		{"Jan", "FEB", "feb", "Apr", "jun", "SEP", "nOv", "Dec", "Juni", "2", ""},
		{"1970", "70", "49", "50", "00", "100", "000", "999", "0001", "0000", "0004", "1900", "2000", "2024", "9999", "5", "12345", ""},
		{"01:00:30", "00:00", "23:59:60", "23:59:59", "24:00", "12:60", "1:00", "00:00:61", ""},
		{"+0100", "", "-0100", "+2359", "-2359", "+2400", "+0060", "-100", "Z", "ut", "gmt", "EST", "edt", "cst", "CDT", "mst", "MDT", "pst", "PDT", "abcde", "abcdef", "a1"},
	}
	for i := range choices {
		for j := range i {
			for _, a := range choices[i] {
				for _, b := range choices[j] {
					list := words()
					list[i], list[j] = a, b
					check(t, strings.Join(list, " "))
				}
			}
		}
	}
}

// P7.3, P1: dates with a byte put in, left out or replaced, and with comments of every kind.
func TestReadOfChangedDates(t *testing.T) {
	all := samples.AllBytes()
	for _, s := range []string{"Thu, 1 Jan 1970 01:00:30 +0100", "Sun 29 Feb 00 23:59 pst", "9 (c\\)(d)) Sep 0099 00:00", "31 Dec 9999 23:59:60 Z (e"} {
		check(t, s)
		for i := range len(s) + 1 {
			check(t, s[:i])
			check(t, s[i:])
			for b := range len(all) {
				check(t, s[:i]+all[b:b+1]+s[i:])
			}
			if i == len(s) {
				break
			}
			check(t, s[:i]+s[i+1:])
			for b := range len(all) {
				check(t, s[:i]+all[b:b+1]+s[i+1:])
			}
		}
	}
	for _, comment := range samples.Words("()\\ a", 6) {
		check(t, "1 Jan"+comment+" 1970 00:00"+comment)
		check(t, "1 Jan(a"+comment+"b)1970 00:00")
	}
}

// P7.3, P1: strings without a pattern are no dates, but comments of such are read over.
func TestReadOfNoise(t *testing.T) {
	for seed := range uint64(2000) {
		noise := samples.Noise(int(seed%200), seed)
		check(t, noise)
		check(t, "1 Jan 1970 00:00 ("+noise)
		check(t, "1 Jan ("+noise+") 1970 00:00")
	}
	for _, s := range samples.Words("(1: ,J\\", 5) {
		check(t, s)
	}
}

// P7.4: what was read is read again from what Write makes of it.
func TestReadDatesAreWritten(t *testing.T) {
	for _, weekday := range []string{"", "Mon, ", "sat "} {
		for _, day := range []string{"1", "09", "28", "29 ", "31,"} {
			for _, month := range []string{" jan ", "(a)FEB ", " Dec "} {
				for _, year := range []string{"0001", "0099", "00", "49", "50", "99", "000", "126", "2024", "9999"} {
					for _, clock := range []string{" 00:00", " 23:59:59", " 12:34:60"} {
						for _, zone := range []string{"", " Z", " pst", " xyz", " -0000", " -0001", " +2359", " -2359", " (a)+0530"} {
							checkAgain(t, weekday+day+month+year+clock+zone)
						}
					}
				}
			}
		}
	}
}

// checkAgain reads s, and reads what Write makes of it.
func checkAgain(t *testing.T, s string) {
	t.Helper()
	check(t, s)
	u, ok := date.Read(s)
	if !ok {
		return
	}
	if again, ok := date.Read(date.Write(u)); again != u || !ok {
		t.Errorf("Read(%q) = %d, but %q is read as %d, %v", s, u, date.Write(u), again, ok)
	}
}

// P1: Read ends soon for long strings of the kinds that it stops at.
func TestReadOfLongStrings(t *testing.T) {
	const count = 100000
	for _, unit := range []string{"(", ")", "\\", "(\\", "()", "(a", " ", ",", " x", "0", ":", "+", "Mon ", "1 ", "\xff", "\r\n"} {
		long := strings.Repeat(unit, count)
		check(t, long)
		for _, s := range []string{"(" + long, "(" + long + ")", "1 Jan 1970 00:00 (" + long} {
			check(t, s)
		}
		list := words()
		for i := range list {
			check(t, strings.Join(list[:i], " ")+long+" "+strings.Join(list[i:], " "))
		}
	}
	deep := strings.Repeat("(", count) + strings.Repeat(")", count)
	checkRead(t, deep+strings.Join(words(), deep)+deep, api.Time{Unix: 30, Zone: 60})
}
