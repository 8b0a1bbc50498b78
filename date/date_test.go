package date_test

import (
	"testing"
	"time"

	"pouch/api"
	"pouch/date"
)

const (
	firstSecond = -62135596800
	lastSecond  = 253402300799
)

// moments lists seconds at the edges of days, years and the calendar, and others all over it.
func moments() []int {
	list := []int{0, 1, 59, 60, 3599, 3600, 43200, 86399, 86400, 951868799, 951782400, 1700000000}
	for _, n := range list {
		list = append(list, -n, firstSecond+n, lastSecond-n)
	}
	for n := range 1000 {
		list = append(list, firstSecond+n*(lastSecond-firstSecond)/1000+n*n)
	}
	return list
}

// zones lists valid zones: those at the edges and some between them.
func zones() []int {
	list := []int{-1439, -1438, -1381, -1380, -720, -630, -61, -60, -59, -31, -1, 0, 1, 29, 59, 60, 61, 90, 345, 840, 1380, 1438, 1439}
	for zone := -1400; zone < 1439; zone += 97 {
		list = append(list, zone)
	}
	return list
}

// wrongTimes lists times that are not valid.
func wrongTimes() []api.Time {
	var list []api.Time
	for _, n := range append([]int{firstSecond - 1, firstSecond - 60, lastSecond + 1, lastSecond + 60, 1 << 40, -1 << 40}, extremes...) {
		for _, zone := range append([]int{-1440, -1439, -60, -1, 0, 1, 60, 1439, 1440}, extremes...) {
			list = append(list, api.Time{Unix: n, Zone: zone})
		}
	}
	for _, n := range []int{firstSecond, firstSecond + 86400, -1, 0, 1, lastSecond} {
		for _, zone := range append([]int{-1440, 1440, -1441, 1441, -2000, 2000, 86400, -86400}, extremes...) {
			list = append(list, api.Time{Unix: n, Zone: zone})
		}
	}
	return list
}

// clock is t by another calendar.
func clock(t api.Time) time.Time {
	return time.Unix(int64(t.Unix), 0).In(time.FixedZone("", t.Zone*60))
}

// P7.2: Right at the first and the last second and zone, and one beyond each.
func TestRight(t *testing.T) {
	for _, n := range moments() {
		for _, zone := range zones() {
			if !date.Right(api.Time{Unix: n, Zone: zone}) {
				t.Errorf("Right(%d, %d) is false", n, zone)
			}
		}
	}
	for _, w := range wrongTimes() {
		if date.Right(w) {
			t.Errorf("Right(%d, %d) is true", w.Unix, w.Zone)
		}
	}
}

// partsOf lists the components of t from PYear to PZone.
func partsOf(t api.Time) [8]int {
	var parts [8]int
	for i := range parts {
		parts[i] = date.Part(t, i+1)
	}
	return parts
}

// P7.2: the components are numbered from PYear, 1, to PZone, 8.
func TestNumbersOfParts(t *testing.T) {
	got := [8]int{date.PYear, date.PMonth, date.PDay, date.PHour, date.PMinute, date.PSecond, date.PWeekday, date.PZone}
	if got != [8]int{1, 2, 3, 4, 5, 6, 7, 8} {
		t.Errorf("the numbers are %d", got)
	}
}

// P7.2: every component, before and after 1970, and of local times outside the calendar, whose date alone is 0, 0, 0.
func TestParts(t *testing.T) {
	for _, c := range []struct {
		unix, zone int
		want       [8]int
	}{
		{0, 0, [8]int{1970, 1, 1, 0, 0, 0, 4, 0}},
		{30, 60, [8]int{1970, 1, 1, 1, 0, 30, 4, 60}},
		{86399, 0, [8]int{1970, 1, 1, 23, 59, 59, 4, 0}},
		{86400, 0, [8]int{1970, 1, 2, 0, 0, 0, 5, 0}},
		{86399, 1, [8]int{1970, 1, 2, 0, 0, 59, 5, 1}},
		{-1, 0, [8]int{1969, 12, 31, 23, 59, 59, 3, 0}},
		{-1, 60, [8]int{1970, 1, 1, 0, 59, 59, 4, 60}},
		{0, -1, [8]int{1969, 12, 31, 23, 59, 0, 3, -1}},
		{59, -1, [8]int{1969, 12, 31, 23, 59, 59, 3, -1}},
		{60, -1, [8]int{1970, 1, 1, 0, 0, 0, 4, -1}},
		{-86400, 0, [8]int{1969, 12, 31, 0, 0, 0, 3, 0}},
		{-86401, 0, [8]int{1969, 12, 30, 23, 59, 59, 2, 0}},
		{-345600, 0, [8]int{1969, 12, 28, 0, 0, 0, 0, 0}},
		{-345601, 0, [8]int{1969, 12, 27, 23, 59, 59, 6, 0}},
		{951868799, -630, [8]int{2000, 2, 29, 13, 29, 59, 2, -630}},
		{951868800, 0, [8]int{2000, 3, 1, 0, 0, 0, 3, 0}},
		{951868800, -1439, [8]int{2000, 2, 29, 0, 1, 0, 2, -1439}},
		{951868800, 1439, [8]int{2000, 3, 1, 23, 59, 0, 3, 1439}},
		{firstSecond, 0, [8]int{1, 1, 1, 0, 0, 0, 1, 0}},
		{firstSecond, 1439, [8]int{1, 1, 1, 23, 59, 0, 1, 1439}},
		{firstSecond + 60, -1, [8]int{1, 1, 1, 0, 0, 0, 1, -1}},
		{lastSecond, 0, [8]int{9999, 12, 31, 23, 59, 59, 5, 0}},
		{lastSecond, -1439, [8]int{9999, 12, 31, 0, 0, 59, 5, -1439}},
		{lastSecond - 60, 1, [8]int{9999, 12, 31, 23, 59, 59, 5, 1}},
		// Local times before the year 1 and after the year 9999.
		{firstSecond, -1, [8]int{0, 0, 0, 23, 59, 0, 0, -1}},
		{firstSecond + 59, -1, [8]int{0, 0, 0, 23, 59, 59, 0, -1}},
		{firstSecond, -1439, [8]int{0, 0, 0, 0, 1, 0, 0, -1439}},
		{firstSecond + 3605, -61, [8]int{0, 0, 0, 23, 59, 5, 0, -61}},
		{lastSecond, 1, [8]int{0, 0, 0, 0, 0, 59, 6, 1}},
		{lastSecond - 59, 1, [8]int{0, 0, 0, 0, 0, 0, 6, 1}},
		{lastSecond, 1439, [8]int{0, 0, 0, 23, 58, 59, 6, 1439}},
	} {
		if got := partsOf(api.Time{Unix: c.unix, Zone: c.zone}); got != c.want {
			t.Errorf("the parts of %d, %d are %d, want %d", c.unix, c.zone, got, c.want)
		}
	}
}

// P7.2: the components are those of another calendar.
func TestPartsElsewhere(t *testing.T) {
	for _, n := range moments() {
		for _, zone := range zones() {
			u := api.Time{Unix: n, Zone: zone}
			c := clock(u)
			want := [8]int{c.Year(), int(c.Month()), c.Day(), c.Hour(), c.Minute(), c.Second(), int(c.Weekday()), zone}
			if c.Year() < 1 || c.Year() > 9999 {
				want[0], want[1], want[2] = 0, 0, 0
			}
			if got := partsOf(u); got != want {
				t.Errorf("the parts of %d, %d are %d, want %d", n, zone, got, want)
			}
		}
	}
}

// P7.2: Part is 0 for what is no component, and for invalid times.
func TestNoParts(t *testing.T) {
	for _, what := range append([]int{0, -1, -8, 9, 10, 16, 256, 257, 264}, extremes...) {
		for _, u := range []api.Time{{}, {Unix: 951868799, Zone: -630}, {Unix: lastSecond, Zone: 1439}, {Unix: firstSecond - 1}, {Zone: 1440}} {
			if got := date.Part(u, what); got != 0 {
				t.Errorf("Part(%d, %d, what %d) = %d, want 0", u.Unix, u.Zone, what, got)
			}
		}
	}
	for _, w := range wrongTimes() {
		if got := partsOf(w); got != [8]int{} {
			t.Errorf("the parts of %d, %d are %d, want zeros", w.Unix, w.Zone, got)
		}
	}
}

// P7.3: Write gives two digits to the day, four to the year, and a sign to the zone.
func TestWrite(t *testing.T) {
	for _, c := range []struct {
		unix, zone int
		want       string
	}{
		{0, 0, "Thu, 01 Jan 1970 00:00:00 +0000"},
		{30, 60, "Thu, 01 Jan 1970 01:00:30 +0100"},
		{-1, 0, "Wed, 31 Dec 1969 23:59:59 +0000"},
		{-1, 60, "Thu, 01 Jan 1970 00:59:59 +0100"},
		{0, -1, "Wed, 31 Dec 1969 23:59:00 -0001"},
		{0, 1, "Thu, 01 Jan 1970 00:01:00 +0001"},
		{0, -59, "Wed, 31 Dec 1969 23:01:00 -0059"},
		{0, 59, "Thu, 01 Jan 1970 00:59:00 +0059"},
		{0, -60, "Wed, 31 Dec 1969 23:00:00 -0100"},
		{0, -61, "Wed, 31 Dec 1969 22:59:00 -0101"},
		{0, 345, "Thu, 01 Jan 1970 05:45:00 +0545"},
		{0, 1439, "Thu, 01 Jan 1970 23:59:00 +2359"},
		{0, -1439, "Wed, 31 Dec 1969 00:01:00 -2359"},
		{951868799, -630, "Tue, 29 Feb 2000 13:29:59 -1030"},
		{951868800, 0, "Wed, 01 Mar 2000 00:00:00 +0000"},
		{1136239445, -420, "Mon, 02 Jan 2006 15:04:05 -0700"},
		{1700000000, 0, "Tue, 14 Nov 2023 22:13:20 +0000"},
		{firstSecond, 0, "Mon, 01 Jan 0001 00:00:00 +0000"},
		{firstSecond, 1439, "Mon, 01 Jan 0001 23:59:00 +2359"},
		{firstSecond + 60, -1, "Mon, 01 Jan 0001 00:00:00 -0001"},
		{-58979923200, 0, "Sat, 01 Jan 0101 00:00:00 +0000"},
		{-30610224001, 0, "Tue, 31 Dec 0999 23:59:59 +0000"},
		{-30610224000, 0, "Wed, 01 Jan 1000 00:00:00 +0000"},
		{lastSecond, 0, "Fri, 31 Dec 9999 23:59:59 +0000"},
		{lastSecond, -1439, "Fri, 31 Dec 9999 00:00:59 -2359"},
		{lastSecond - 60, 1, "Fri, 31 Dec 9999 23:59:59 +0001"},
		// Every month, and every weekday.
		{31 * 86400, 0, "Sun, 01 Feb 1970 00:00:00 +0000"},
		{59 * 86400, 0, "Sun, 01 Mar 1970 00:00:00 +0000"},
		{90 * 86400, 0, "Wed, 01 Apr 1970 00:00:00 +0000"},
		{120 * 86400, 0, "Fri, 01 May 1970 00:00:00 +0000"},
		{151 * 86400, 0, "Mon, 01 Jun 1970 00:00:00 +0000"},
		{181 * 86400, 0, "Wed, 01 Jul 1970 00:00:00 +0000"},
		{212 * 86400, 0, "Sat, 01 Aug 1970 00:00:00 +0000"},
		{243 * 86400, 0, "Tue, 01 Sep 1970 00:00:00 +0000"},
		{273 * 86400, 0, "Thu, 01 Oct 1970 00:00:00 +0000"},
		{304 * 86400, 0, "Sun, 01 Nov 1970 00:00:00 +0000"},
		{334 * 86400, 0, "Tue, 01 Dec 1970 00:00:00 +0000"},
		// Local years outside 1 to 9999.
		{firstSecond, -1, ""},
		{firstSecond + 59, -1, ""},
		{firstSecond, -1439, ""},
		{firstSecond + 1439*60 - 1, -1439, ""},
		{lastSecond, 1, ""},
		{lastSecond - 59, 1, ""},
		{lastSecond, 1439, ""},
		{lastSecond - 1439*60 + 1, 1439, ""},
	} {
		if got := date.Write(api.Time{Unix: c.unix, Zone: c.zone}); got != c.want {
			t.Errorf("Write(%d, %d) = %q, want %q", c.unix, c.zone, got, c.want)
		}
	}
}

// P7.3: Write gives the empty string for invalid times.
func TestWriteOfWrongTimes(t *testing.T) {
	for _, w := range wrongTimes() {
		if got := date.Write(w); got != "" {
			t.Errorf("Write(%d, %d) = %q, want the empty string", w.Unix, w.Zone, got)
		}
	}
}

// P7.3: Write gives what another calendar gives.
func TestWriteElsewhere(t *testing.T) {
	for _, n := range moments() {
		for _, zone := range zones() {
			u := api.Time{Unix: n, Zone: zone}
			want := clock(u).Format("Mon, 02 Jan 2006 15:04:05 -0700")
			if year := clock(u).Year(); year < 1 || year > 9999 {
				want = ""
			}
			if got := date.Write(u); got != want {
				t.Errorf("Write(%d, %d) = %q, want %q", n, zone, got, want)
			}
		}
	}
}

// P7.4: Read gives back every time that Write writes.
func TestReadInvertsWrite(t *testing.T) {
	check := func(u api.Time) {
		s := date.Write(u)
		if s == "" {
			return
		}
		if got, ok := date.Read(s); got != u || !ok {
			t.Errorf("Read(%q) = %d, %v, want %d", s, got, ok, u)
		}
	}
	for _, n := range moments() {
		for _, zone := range zones() {
			check(api.Time{Unix: n, Zone: zone})
		}
	}
	for zone := -1439; zone <= 1439; zone++ {
		for _, n := range []int{0, firstSecond, firstSecond + 86400, lastSecond, lastSecond - 86400, 951868799} {
			check(api.Time{Unix: n, Zone: zone})
		}
	}
	for n := range 90000 {
		check(api.Time{Unix: 951782400 - 3600 + n, Zone: 90})
	}
}

// secondsOf is a local time as seconds, counted from the components that Part tells.
func secondsOf(t api.Time) int {
	days := date.Days(date.Part(t, date.PYear), date.Part(t, date.PMonth), date.Part(t, date.PDay))
	return ((days*24+date.Part(t, date.PHour))*60+date.Part(t, date.PMinute))*60 + date.Part(t, date.PSecond)
}

// P7.2, P7.4: the local time is Unix and the zone; another zone shifts it by the difference of the zones.
func TestZonesShiftLocalTimes(t *testing.T) {
	for _, n := range moments() {
		// A day away from its ends, the calendar has every local time.
		n = min(max(n, firstSecond+86400), lastSecond-86400)
		base := secondsOf(api.Time{Unix: n})
		for _, zone := range zones() {
			if got := secondsOf(api.Time{Unix: n, Zone: zone}); got-base != 60*zone || got != n+60*zone {
				t.Errorf("the zone %d shifts %d by %d", zone, n, got-base)
			}
		}
	}
}
