package lines_test

import (
	"runtime"
	"slices"
	"strings"
	"testing"
	"unsafe"

	"pouch/api"
	"pouch/lines"
	"pouch/samples"
)

const greatest = 1 << 20

// limitOf is the line limit of New(most).
func limitOf(most int) int {
	switch {
	case most < 1:
		return 1
	case most > greatest:
		return greatest
	}
	return most
}

// fedOf is what a Feed of a limit returns in all for an input, and its rest.
func fedOf(limit int, input string) (completed []string, rest string) {
	for _, line := range linesOf(input) {
		long := line
		if len(line) > limit {
			line = line[:limit]
		}
		if strings.HasSuffix(long, "\n") {
			completed = append(completed, line)
		} else {
			rest = line
		}
	}
	return completed, rest
}

// checkFeed pushes chunks into a new Feed and holds what it returns against the reference after each.
func checkFeed(t *testing.T, most int, chunks []string) {
	t.Helper()
	f := lines.New(most)
	input := ""
	var completed []string
	for i, chunk := range chunks {
		input += chunk
		completed = append(completed, f.Push(chunk)...)
		want, rest := fedOf(limitOf(most), input)
		if !slices.Equal(completed, want) {
			t.Errorf("New(%d), %.60q: the lines are %.60q, want %.60q", most, chunks[:i+1], completed, want)
		}
		if got := f.Rest(); got != rest {
			t.Errorf("New(%d), %.60q: the rest is %.60q, want %.60q", most, chunks[:i+1], got, rest)
		}
	}
}

// bytesOf is s, byte by byte.
func bytesOf(s string) []string {
	list := make([]string, len(s))
	for i := range list {
		list[i] = s[i : i+1]
	}
	return list
}

// P8.3: what Push and Rest return, chunk by chunk, is written out.
func TestFeed(t *testing.T) {
	type step struct {
		chunk string
		want  []string
		rest  string
	}
	for _, c := range []struct {
		most  int
		steps []step
	}{
		{9, []step{{"", nil, ""}, {"a", nil, "a"}, {"", nil, "a"}, {"b\n", []string{"ab\n"}, ""}, {"", nil, ""}}},
		{9, []step{{"a\nb\r\n\nc", []string{"a\n", "b\r\n", "\n"}, "c"}, {"\r", nil, "c\r"}, {"\n", []string{"c\r\n"}, ""}}},
		{9, []step{{"\r", nil, "\r"}, {"\r", nil, "\r\r"}, {"\nx", []string{"\r\r\n"}, "x"}}},
		{9, []step{{"\n", []string{"\n"}, ""}, {"\n\n", []string{"\n", "\n"}, ""}}},
		{9, []step{{"a\rb", nil, "a\rb"}, {"\n\r", []string{"a\rb\n"}, "\r"}}},
		{9, []step{{"\x00\xff", nil, "\x00\xff"}, {"\xc3\n\x80", []string{"\x00\xff\xc3\n"}, "\x80"}}},
		{9, []step{{".\n..\n", []string{".\n", "..\n"}, ""}}},
		{1, []step{{"a", nil, "a"}, {"b", nil, "a"}, {"\n", []string{"a"}, ""}, {"\n", []string{"\n"}, ""}, {"\r\n", []string{"\r"}, ""}}},
		{2, []step{{"a\n", []string{"a\n"}, ""}, {"ab\n", []string{"ab"}, ""}, {"a\r\n", []string{"a\r"}, ""}, {"\r\n", []string{"\r\n"}, ""}, {"abc", nil, "ab"}}},
		{4, []step{{"abc\nabcd\nabcde\n", []string{"abc\n", "abcd", "abcd"}, ""}}},
		{4, []step{{"ab\r\nabc\r\nabcd\r\n", []string{"ab\r\n", "abc\r", "abcd"}, ""}}},
		{4, []step{{"abc", nil, "abc"}, {"d", nil, "abcd"}, {"e", nil, "abcd"}, {"\r", nil, "abcd"}, {"\nf", []string{"abcd"}, "f"}}},
		{4, []step{{"abcdefgh", nil, "abcd"}, {"ijkl\nmnopqr", []string{"abcd"}, "mnop"}}},
		{-3, []step{{"ab\n\nc", []string{"a", "\n"}, "c"}}},
	} {
		f := lines.New(c.most)
		if got := f.Rest(); got != "" {
			t.Errorf("New(%d): the rest is %q before the first Push", c.most, got)
		}
		for i, s := range c.steps {
			if got := f.Push(s.chunk); !slices.Equal(got, s.want) {
				t.Errorf("New(%d), step %d: Push(%q) = %q, want %q", c.most, i, s.chunk, got, s.want)
			}
			for range 2 {
				if got := f.Rest(); got != s.rest {
					t.Errorf("New(%d), step %d: the rest is %q, want %q", c.most, i, got, s.rest)
				}
			}
		}
	}
}

// P8.3: limits are clamped to the range 1 to 2^20.
func TestLimits(t *testing.T) {
	for _, c := range []struct{ most, limit int }{
		{api.MinInt, 1},
		{api.MinInt + 1, 1},
		{-greatest, 1},
		{-1, 1},
		{0, 1},
		{1, 1},
		{2, 2},
		{3, 3},
		{1000, 1000},
		{greatest - 1, greatest - 1},
		{greatest, greatest},
		{greatest + 1, greatest},
		{greatest * 2, greatest},
		{1 << 32, greatest},
		{1<<32 + 1, greatest},
		{api.MaxInt - 1, greatest},
		{api.MaxInt, greatest},
	} {
		f := lines.New(c.most)
		long := strings.Repeat("x", greatest+5)
		if got := f.Push(long); len(got) != 0 {
			t.Errorf("New(%d): Push of a begun line = %d lines", c.most, len(got))
		}
		if got := f.Rest(); got != long[:c.limit] {
			t.Errorf("New(%d): the rest has %d bytes, want %d", c.most, len(got), c.limit)
		}
		if got := f.Push("\n"); len(got) != 1 || got[0] != long[:c.limit] {
			t.Errorf("New(%d): a long line is not cut to %d bytes", c.most, c.limit)
		}
	}
}

// P8.3: lines a byte below the limit, at it and beyond it, with their ending or without one, in one chunk and divided.
func TestLinesNearTheLimit(t *testing.T) {
	for _, limit := range []int{1, 2, 3, 4, 5, 64, 1000, greatest} {
		for length := max(0, limit-3); length <= limit+3; length++ {
			for _, end := range []string{"", "\n", "\r\n", "\r\r\n", "\r", "\n\n", "\nabc"} {
				line := strings.Repeat("x", length) + end
				checkFeed(t, limit, []string{line})
				checkFeed(t, limit, []string{line[:length], line[length:]})
				checkFeed(t, limit, []string{line[:length/2], line[length/2:]})
				checkFeed(t, limit, append([]string{line[:length]}, bytesOf(end)...))
				if limit <= 64 {
					checkFeed(t, limit, bytesOf(line))
				}
			}
		}
	}
}

// P8.3, P8.5: what a Feed returns does not depend on how the input is divided: short inputs are divided in every way.
func TestEveryDivision(t *testing.T) {
	inputs := samples.Words("\r\na", 6)
	inputs = append(inputs, "ab\n\r\n\nc", "a\r\r\nb\n", "abc\r\nd\n")
	for _, input := range inputs {
		for _, limit := range []int{1, 2, 3, 4, 9} {
			// The bits of cuts tell behind which bytes the input is cut.
			for cuts := range 1 << max(0, len(input)-1) {
				var chunks []string
				start := 0
				for i := range len(input) - 1 {
					if cuts>>i&1 == 1 {
						chunks = append(chunks, input[start:i+1])
						start = i + 1
					}
				}
				checkFeed(t, limit, append(chunks, input[start:]))
			}
		}
	}
}

// P8.3, P8.5: longer inputs whole, byte by byte, at every cut, and with empty chunks between.
func TestDivisions(t *testing.T) {
	inputs := []string{
		strings.Repeat("ab\r\n\n.\r", 12),
		strings.Repeat("\r", 40) + "\n" + strings.Repeat("x", 40),
		samples.AllBytes(),
		samples.Noise(300, 1),
		strings.ReplaceAll(samples.Noise(300, 2), "\x20", "\n"),
	}
	for _, input := range inputs {
		for _, limit := range []int{-1, 1, 2, 3, 7, 100, 255, 256, 257, api.MaxInt} {
			checkFeed(t, limit, []string{input})
			checkFeed(t, limit, bytesOf(input))
			checkFeed(t, limit, strings.SplitAfter(input, "\n"))
			for cut := range len(input) + 1 {
				checkFeed(t, limit, []string{input[:cut], "", input[cut:]})
			}
		}
	}
}

// P8.3: two Feeds do not disturb one another.
func TestTwoFeeds(t *testing.T) {
	f, g := lines.New(3), lines.New(5)
	f.Push("abcdef")
	if got := g.Rest(); got != "" {
		t.Errorf("the rest of an empty Feed is %q", got)
	}
	g.Push("12")
	if got := f.Push("\nx"); !slices.Equal(got, []string{"abc"}) {
		t.Errorf("the first Feed returns %q", got)
	}
	if got := g.Push("3456\n78"); !slices.Equal(got, []string{"12345"}) {
		t.Errorf("the second Feed returns %q", got)
	}
	if f.Rest() != "x" || g.Rest() != "78" {
		t.Errorf("the rests are %q and %q", f.Rest(), g.Rest())
	}
}

// P8.4: what a Feed has returned stays as it was when the Feed goes on, and may be changed.
func TestReturnedSlicesAreFresh(t *testing.T) {
	f := lines.New(9)
	first := f.Push("abc\ndef\nghi")
	rest := f.Rest()
	second := f.Push("XYZ\n123\n456")
	f.Push(strings.Repeat("q\n", 50))
	if !slices.Equal(first, []string{"abc\n", "def\n"}) || rest != "ghi" || !slices.Equal(second, []string{"ghiXYZ\n", "123\n"}) {
		t.Errorf("what was returned became %q, %q, %q", first, rest, second)
	}
	f.Push("abc")
	third := f.Push("\ndef\nghi")
	third[0], third[1] = "changed", "changed"
	_ = append(third[:0], "more", "more", "more")
	if got := f.Push("jkl\nmno\n"); !slices.Equal(got, []string{"ghijkl\n", "mno\n"}) {
		t.Errorf("Push = %q behind a changed slice", got)
	}
	if got := f.Rest(); got != "" {
		t.Errorf("the rest is %q behind a changed slice", got)
	}
}

// P8.4, R2: a Feed changes and keeps none of its arguments: the memory of a chunk may be written over.
func TestChunksAreNotKept(t *testing.T) {
	f := lines.New(9)
	bytes := []byte("abc\r\ndef")
	got := f.Push(unsafe.String(&bytes[0], len(bytes)))
	if string(bytes) != "abc\r\ndef" {
		t.Errorf("Push changed its argument to %q", bytes)
	}
	clear(bytes)
	if !slices.Equal(got, []string{"abc\r\n"}) || f.Rest() != "def" {
		t.Errorf("Push = %q, with the rest %q", got, f.Rest())
	}
}

// heapInUse is how many bytes are reachable.
func heapInUse() int {
	var m runtime.MemStats
	runtime.GC()
	runtime.ReadMemStats(&m)
	return int(m.HeapAlloc)
}

// P8.4: of a line beyond its limit, a Feed retains no more than the limit, and of a completed line nothing.
func TestFeedRetainsNoMore(t *testing.T) {
	const feeds, slack = 100, 1 << 20
	before := heapInUse()
	list := make([]*lines.Feed, feeds)
	for i := range list {
		list[i] = lines.New(10)
		for range 100 {
			// Each chunk is memory of its own, which is given up afterwards.
			list[i].Push(strings.Repeat("x", 100000))
		}
	}
	if got := heapInUse() - before; got > slack {
		t.Errorf("%d Feeds with a limit of 10 retain %d bytes", feeds, got)
	}
	for i := range list {
		list[i] = lines.New(greatest)
	}
	if got := heapInUse() - before; got > slack {
		t.Errorf("%d empty Feeds retain %d bytes", feeds, got)
	}
	for _, f := range list {
		f.Push(strings.Repeat("x", greatest))
		f.Push("\n")
	}
	if got := heapInUse() - before; got > slack {
		t.Errorf("%d Feeds that have returned all retain %d bytes", feeds, got)
	}
	for _, f := range list {
		f.Push(strings.Repeat("x", greatest) + "\nabc")
	}
	if got := heapInUse() - before; got > slack {
		t.Errorf("%d Feeds with a begun line retain %d bytes", feeds, got)
	}
	for i, f := range list {
		if got := f.Rest(); got != "abc" {
			t.Errorf("the rest of Feed %d is %.40q", i, got)
		}
	}
}

// P1: a Feed ends soon for a long line that arrives byte by byte, and for many lines.
func TestLongInput(t *testing.T) {
	f := lines.New(greatest)
	for range greatest + 5 {
		f.Push("x")
	}
	if got := f.Rest(); got != strings.Repeat("x", greatest) {
		t.Errorf("the rest has %d bytes", len(got))
	}
	if got := f.Push(strings.Repeat("\n", greatest)); len(got) != greatest || len(got[0]) != greatest || got[1] != "\n" {
		t.Errorf("Push = %d lines", len(got))
	}
	if got := f.Rest(); got != "" {
		t.Errorf("the rest is %.40q", got)
	}
}
