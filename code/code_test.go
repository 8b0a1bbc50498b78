package code_test

import (
	"slices"
	"strings"
	"testing"

	"pouch/api"
	"pouch/code"
	"pouch/samples"
)

// varints pairs non-negative integers with their varints, at every change of length.
var varints = []struct {
	n int
	s string
}{
	{0, "\x00"},
	{1, "\x01"},
	{127, "\x7f"},
	{128, "\x80\x01"},
	{129, "\x81\x01"},
	{255, "\xff\x01"},
	{256, "\x80\x02"},
	{300, "\xac\x02"},
	{1<<14 - 1, "\xff\x7f"},
	{1 << 14, "\x80\x80\x01"},
	{1<<21 - 1, "\xff\xff\x7f"},
	{1 << 21, "\x80\x80\x80\x01"},
	{1<<28 - 1, "\xff\xff\xff\x7f"},
	{1 << 28, "\x80\x80\x80\x80\x01"},
	{1<<31 - 1, "\xff\xff\xff\xff\x07"},
	{1 << 31, "\x80\x80\x80\x80\x08"},
	{1 << 32, "\x80\x80\x80\x80\x10"},
	{1<<35 - 1, "\xff\xff\xff\xff\x7f"},
	{1 << 35, "\x80\x80\x80\x80\x80\x01"},
	{1 << 42, "\x80\x80\x80\x80\x80\x80\x01"},
	{1 << 49, "\x80\x80\x80\x80\x80\x80\x80\x01"},
	{1<<56 - 1, "\xff\xff\xff\xff\xff\xff\xff\x7f"},
	{1 << 56, "\x80\x80\x80\x80\x80\x80\x80\x80\x01"},
	{api.MaxInt - 1, "\xfe\xff\xff\xff\xff\xff\xff\xff\x7f"},
	{api.MaxInt, "\xff\xff\xff\xff\xff\xff\xff\xff\x7f"},
}

// noVarints are inputs at whose start there is no valid varint.
var noVarints = []string{
	"",
	"\x80", "\xff", "\x80\x80", "\xac", "\xff\xff\xff\xff\xff\xff\xff\xff",
	"\x80\x00", "\xff\x00", "\x80\x80\x00", "\x81\x80\x00", "\x80\x00\x01", "\x80\x80\x00z",
	"\x80\x80\x80\x80\x80\x80\x80\x80\x00",
	"\xff\xff\xff\xff\xff\xff\xff\xff\xff",
	"\xff\xff\xff\xff\xff\xff\xff\xff\xff\x00",
	"\xff\xff\xff\xff\xff\xff\xff\xff\xff\x01",
	"\x80\x80\x80\x80\x80\x80\x80\x80\x80\x01",
	"\x80\x80\x80\x80\x80\x80\x80\x80\x80\x01abc",
	strings.Repeat("\x80", 5000) + "\x01",
	strings.Repeat("\xff", 5000),
}

// P2.1: Num gives the varint, and nothing for a negative integer.
func TestNum(t *testing.T) {
	for _, v := range varints {
		if got := code.Num(v.n); got != v.s {
			t.Errorf("Num(%d) = %q, want %q", v.n, got, v.s)
		}
	}
	for _, n := range []int{-1, -127, -128, -129, -1 << 31, api.MinInt + 1, api.MinInt} {
		if got := code.Num(n); got != "" {
			t.Errorf("Num(%d) = %q, want the empty string", n, got)
		}
	}
}

// P2.1: Text gives the length and the string.
func TestText(t *testing.T) {
	for _, c := range [][2]string{
		{"", "\x00"},
		{"a", "\x01a"},
		{"ab", "\x02ab"},
		{"\x00", "\x01\x00"},
		{"\xff\x80", "\x02\xff\x80"},
		{"\u00e9", "\x02\xc3\xa9"},
		{strings.Repeat("x", 127), "\x7f" + strings.Repeat("x", 127)},
		{strings.Repeat("x", 128), "\x80\x01" + strings.Repeat("x", 128)},
		{strings.Repeat("x", 300), "\xac\x02" + strings.Repeat("x", 300)},
	} {
		if got := code.Text(c[0]); got != c[1] {
			t.Errorf("Text(%q) = %q, want %q", c[0], got, c[1])
		}
	}
}

// P2.1: List gives the number of elements and the encoding of each.
func TestList(t *testing.T) {
	for _, c := range []struct {
		l    []string
		want string
	}{
		{nil, "\x00"},
		{[]string{}, "\x00"},
		{[]string{""}, "\x01\x00"},
		{[]string{"", ""}, "\x02\x00\x00"},
		{[]string{"", "c"}, "\x02\x00\x01c"},
		{[]string{"c", ""}, "\x02\x01c\x00"},
		{[]string{"ab", "\xff", "abc"}, "\x03\x02ab\x01\xff\x03abc"},
		{[]string{strings.Repeat("x", 128)}, "\x01\x80\x01" + strings.Repeat("x", 128)},
		{make([]string, 127), "\x7f" + strings.Repeat("\x00", 127)},
		{make([]string, 128), "\x80\x01" + strings.Repeat("\x00", 128)},
	} {
		if got := code.List(c.l); got != c.want {
			t.Errorf("List(%q) = %q, want %q", c.l, got, c.want)
		}
	}
}

// P2.1: Nums gives the number of elements and the varint of each; a negative element is only counted.
func TestNums(t *testing.T) {
	for _, c := range []struct {
		l    []int
		want string
	}{
		{nil, "\x00"},
		{[]int{}, "\x00"},
		{[]int{0}, "\x01\x00"},
		{[]int{7, 128}, "\x02\x07\x80\x01"},
		{[]int{127, 0, 300}, "\x03\x7f\x00\xac\x02"},
		{[]int{api.MaxInt}, "\x01\xff\xff\xff\xff\xff\xff\xff\xff\x7f"},
		{[]int{-1}, "\x01"},
		{[]int{-1, 5, api.MinInt, 6}, "\x04\x05\x06"},
		{[]int{5, -1}, "\x02\x05"},
		{make([]int, 127), "\x7f" + strings.Repeat("\x00", 127)},
		{make([]int, 128), "\x80\x01" + strings.Repeat("\x00", 128)},
	} {
		if got := code.Nums(c.l); got != c.want {
			t.Errorf("Nums(%v) = %q, want %q", c.l, got, c.want)
		}
	}
}

// P2.2: Open gives a Reader over the whole of its input, without an error.
func TestOpen(t *testing.T) {
	for _, s := range []string{"", "a", "\x80", "\x00\x00", strings.Repeat("x", 1000)} {
		r := code.Open(s)
		if r.Left() != len(s) || r.Done() != (s == "") {
			t.Errorf("Open(%q): Left %d, Done %v", s, r.Left(), r.Done())
		}
		if got := r.Take(len(s)); got != s || !r.Done() {
			t.Errorf("Open(%q): Take of all gives %q, Done %v", s, got, r.Done())
		}
	}
}

// P2.2: Reader.Num consumes exactly the varint, whatever follows it.
func TestReaderNum(t *testing.T) {
	for _, v := range varints {
		for _, rest := range []string{"", "a", "\x00", "\x80", "\xff\xff", "\x01\x02\x03"} {
			r := code.Open(v.s + rest)
			if n := r.Num(); n != v.n || r.Left() != len(rest) || r.Done() != (rest == "") {
				t.Errorf("Num of %q: %d, Left %d, Done %v", v.s+rest, n, r.Left(), r.Done())
			}
			if got := r.Take(len(rest)); got != rest || !r.Done() {
				t.Errorf("after Num of %q: %q, Done %v", v.s+rest, got, r.Done())
			}
		}
	}
}

// P2.2: an input without a valid varint sets the error flag.
func TestReaderNumRejects(t *testing.T) {
	for _, s := range noVarints {
		r := code.Open(s)
		if n := r.Num(); n != 0 {
			t.Errorf("Num of %q = %d, want 0", s, n)
		}
		checkFailed(t, r)
	}
}

// P2.2: every cut of a varint that leaves its last byte away is refused.
func TestReaderNumCutShort(t *testing.T) {
	for _, v := range varints {
		for end := range len(v.s) {
			r := code.Open(v.s[:end])
			if n := r.Num(); n != 0 {
				t.Errorf("Num of %q = %d, want 0", v.s[:end], n)
			}
			checkFailed(t, r)
		}
	}
}

// P2.2: Take consumes from the start, of 0 bytes up to all that are unread.
func TestTake(t *testing.T) {
	r := code.Open("abcdef")
	for _, c := range []struct {
		n    int
		want string
		left int
	}{{0, "", 6}, {1, "a", 5}, {0, "", 5}, {2, "bc", 3}, {3, "def", 0}, {0, "", 0}} {
		if got := r.Take(c.n); got != c.want || r.Left() != c.left || r.Done() != (c.left == 0) {
			t.Errorf("Take(%d) = %q, Left %d, Done %v", c.n, got, r.Left(), r.Done())
		}
	}
}

// P2.2: Take of a negative number or of more than is unread sets the error flag.
func TestTakeRejects(t *testing.T) {
	for _, n := range []int{-1, -2, api.MinInt, 4, 5, api.MaxInt} {
		r := code.Open("abc")
		if got := r.Take(n); got != "" {
			t.Errorf("Take(%d) = %q, want the empty string", n, got)
		}
		checkFailed(t, r)
	}
	for _, n := range []int{-1, 1, api.MaxInt} {
		r := code.Open("")
		if got := r.Take(n); got != "" {
			t.Errorf("Take(%d) of nothing = %q", n, got)
		}
		checkFailed(t, r)
	}
}

// P2.3: Reader.Text reads a length and so many bytes.
func TestReaderText(t *testing.T) {
	for _, c := range []struct{ s, want, rest string }{
		{"\x00", "", ""},
		{"\x00ab", "", "ab"},
		{"\x02ab", "ab", ""},
		{"\x02abc", "ab", "c"},
		{"\x01\x00\x00", "\x00", "\x00"},
		{"\x80\x01" + strings.Repeat("x", 129), strings.Repeat("x", 128), "x"},
	} {
		r := code.Open(c.s)
		if got := r.Text(); got != c.want || r.Left() != len(c.rest) || r.Take(r.Left()) != c.rest || !r.Done() {
			t.Errorf("Text of %q = %q", c.s, got)
		}
	}
}

// P2.3: a text whose length is wrong or that the input cuts short sets the error flag.
func TestReaderTextRejects(t *testing.T) {
	wrong := append([]string{"\x01", "\x03ab", "\x80\x01ab", "\xff\xff\xff\xff\xff\xff\xff\xff\x7fab"}, noVarints...)
	for _, s := range wrong {
		r := code.Open(s)
		if got := r.Text(); got != "" {
			t.Errorf("Text of %q = %q, want the empty string", s, got)
		}
		checkFailed(t, r)
	}
}

// P2.3: Reader.List reads a count and so many texts.
func TestReaderList(t *testing.T) {
	for _, c := range []struct {
		s    string
		want []string
		rest string
	}{
		{"\x00", nil, ""},
		{"\x00\x01a", nil, "\x01a"},
		{"\x01\x00", []string{""}, ""},
		{"\x02\x00\x00", []string{"", ""}, ""},
		{"\x02\x00\x01cz", []string{"", "c"}, "z"},
		{"\x03\x02ab\x00\x03\x00\xff\x80\x80", []string{"ab", "", "\x00\xff\x80"}, "\x80"},
		{"\x80\x01" + strings.Repeat("\x00", 128), make([]string, 128), ""},
	} {
		r := code.Open(c.s)
		if got := r.List(); !slices.Equal(got, c.want) || r.Left() != len(c.rest) || r.Take(r.Left()) != c.rest || !r.Done() {
			t.Errorf("List of %q = %q", c.s, got)
		}
	}
}

// P2.3: Reader.Nums reads a count and so many varints.
func TestReaderNums(t *testing.T) {
	for _, c := range []struct {
		s    string
		want []int
		rest string
	}{
		{"\x00", nil, ""},
		{"\x00\x01a", nil, "\x01a"},
		{"\x01\x00", []int{0}, ""},
		{"\x02\x07\x80\x01z", []int{7, 128}, "z"},
		{"\x02\x00\x00\x00", []int{0, 0}, "\x00"},
		{"\x01\xff\xff\xff\xff\xff\xff\xff\xff\x7f", []int{api.MaxInt}, ""},
		{"\x80\x01" + strings.Repeat("\x01", 128), slices.Repeat([]int{1}, 128), ""},
	} {
		r := code.Open(c.s)
		if got := r.Nums(); !slices.Equal(got, c.want) || r.Left() != len(c.rest) || r.Take(r.Left()) != c.rest || !r.Done() {
			t.Errorf("Nums of %q = %v", c.s, got)
		}
	}
}

// P2.3: a list with a wrong count or a wrong element gives nil and sets the error flag.
func TestReaderListRejects(t *testing.T) {
	wrong := append([]string{
		"\x01", "\x02\x00", "\x05\x00\x00", "\x03\x00\x00",
		"\x02\x01a", "\x01\x01", "\x02\x01a\x05b", "\x01\x80", "\x01\x80\x00", "\x02\x00\x80",
		"\xff\xff\xff\xff\xff\xff\xff\xff\x7f", "\xff\xff\xff\xff\xff\xff\xff\xff\x7f\x00\x00",
	}, noVarints...)
	for _, s := range wrong {
		r := code.Open(s)
		if got := r.List(); got != nil {
			t.Errorf("List of %q = %q, want nil", s, got)
		}
		checkFailed(t, r)
	}
}

// P2.3: the same of Nums.
func TestReaderNumsRejects(t *testing.T) {
	wrong := append([]string{
		"\x01", "\x02\x00", "\x05\x00\x00", "\x03\x00\x00",
		"\x01\x80", "\x02\x07\x80", "\x02\x07\x80\x00", "\x01\x80\x00", "\x02\x80\x01",
		"\xff\xff\xff\xff\xff\xff\xff\xff\x7f", "\xff\xff\xff\xff\xff\xff\xff\xff\x7f\x00\x00",
	}, noVarints...)
	for _, s := range wrong {
		r := code.Open(s)
		if got := r.Nums(); got != nil {
			t.Errorf("Nums of %q = %v, want nil", s, got)
		}
		checkFailed(t, r)
	}
}

// P2.3: the count is held against the bytes behind it, also where they are as many as it says.
func TestCountOfAllUnreadBytes(t *testing.T) {
	r := code.Open("\x03\x00\x00\x00")
	if got := r.List(); len(got) != 3 || !r.Done() {
		t.Errorf("List: %q", got)
	}
	r = code.Open("\x03\x05\x06\x07")
	if got := r.Nums(); !slices.Equal(got, []int{5, 6, 7}) || !r.Done() {
		t.Errorf("Nums: %v", got)
	}
}

// P2.4: Left counts the unread bytes, and Done asks for none and for no error.
func TestLeftAndDone(t *testing.T) {
	r := code.Open("\x07\x02ab\x01\x00\x01\x05z")
	steps := []struct {
		read func()
		left int
	}{
		{func() { r.Num() }, 8},
		{func() { r.Text() }, 5},
		{func() { r.List() }, 3},
		{func() { r.Nums() }, 1},
		{func() { r.Take(1) }, 0},
	}
	for k, step := range steps {
		if r.Done() {
			t.Errorf("step %d: done too early", k)
		}
		step.read()
		if r.Left() != step.left {
			t.Errorf("step %d: Left = %d, want %d", k, r.Left(), step.left)
		}
	}
	if !r.Done() || !r.Done() || r.Left() != 0 {
		t.Error("all is read, but Done is false")
	}
	r.Num()
	checkFailed(t, r)
}

// P2.2, P2.4: an error that comes behind good values stays, and leaves nothing unread.
func TestErrorBehindGoodValues(t *testing.T) {
	r := code.Open("\x05\x02ab\x80\x00\x07\x02cd")
	if n, s := r.Num(), r.Text(); n != 5 || s != "ab" {
		t.Errorf("%d, %q", n, s)
	}
	if n := r.Num(); n != 0 {
		t.Errorf("Num of a wrong varint = %d", n)
	}
	checkFailed(t, r)
}

// P2.5: the functions leave the lists that they are given as they are, and keep none.
func TestArgumentsAreLeftAlone(t *testing.T) {
	texts, nums := []string{"b", "a", ""}, []int{3, -1, 2}
	list, numbers := code.List(texts), code.Nums(nums)
	if !slices.Equal(texts, []string{"b", "a", ""}) || !slices.Equal(nums, []int{3, -1, 2}) {
		t.Errorf("changed: %q, %v", texts, nums)
	}
	texts[0], nums[0] = "other", 99
	if list != "\x03\x01b\x01a\x00" || numbers != "\x03\x03\x02" {
		t.Errorf("%q, %q", list, numbers)
	}
}

// P2.5: an encoding with room behind the list in its array writes nothing there.
func TestRoomBehindAListIsLeftAlone(t *testing.T) {
	texts, nums := []string{"a", "b", "c"}, []int{1, 2, 3}
	code.List(texts[:1])
	code.Nums(nums[:1])
	if !slices.Equal(texts, []string{"a", "b", "c"}) || !slices.Equal(nums, []int{1, 2, 3}) {
		t.Errorf("changed: %q, %v", texts, nums)
	}
}

// P2.5: each list that a Reader gives is its own memory.
func TestListsAreFresh(t *testing.T) {
	input := code.List([]string{"a", "b"}) + code.Nums([]int{1, 2})
	input += input
	r := code.Open(input)
	texts, nums := r.List(), r.Nums()
	otherTexts, otherNums := r.List(), r.Nums()
	texts[0], nums[0] = "x", 99
	texts, nums = append(texts, "y"), append(nums, 98)
	if !slices.Equal(otherTexts, []string{"a", "b"}) || !slices.Equal(otherNums, []int{1, 2}) {
		t.Errorf("changed: %q, %v", otherTexts, otherNums)
	}
	again := code.Open(input)
	if !slices.Equal(again.List(), []string{"a", "b"}) || !slices.Equal(again.Nums(), []int{1, 2}) {
		t.Error("the input changed")
	}
	if len(texts) != 3 || len(nums) != 3 || !r.Done() {
		t.Error("the answers are not whole")
	}
}

// P2.5: Readers over one input do not touch each other.
func TestReadersAreApart(t *testing.T) {
	first, second := code.Open("\x01\x02"), code.Open("\x01\x02")
	first.Take(-1)
	if second.Num() != 1 || second.Left() != 1 || second.Num() != 2 || !second.Done() {
		t.Error("an error of one Reader is seen in the other")
	}
}

// P2.6: a concatenation of encodings is decoded to the same values, whatever follows.
func TestDecodingInvertsEncoding(t *testing.T) {
	texts := []string{"", "a", "\x00", "\xff\x80", "caf\u00e9", strings.Repeat("y", 127), strings.Repeat("z", 20000)}
	lists := [][]string{nil, {""}, texts, make([]string, 300)}
	var numbers []int
	input := ""
	for _, v := range varints {
		numbers = append(numbers, v.n)
		input += code.Num(v.n)
	}
	numLists := [][]int{nil, {0}, numbers, make([]int, 300)}
	for _, s := range texts {
		input += code.Text(s)
	}
	for k := range lists {
		input += code.List(lists[k]) + code.Nums(numLists[k])
	}
	for _, rest := range []string{"", "\x00", "\x80", "\xff\xff\xff\xff\xff\xff\xff\xff\xff\xff"} {
		r := code.Open(input + rest)
		for _, v := range varints {
			if n := r.Num(); n != v.n {
				t.Errorf("Num = %d, want %d", n, v.n)
			}
		}
		for _, s := range texts {
			if got := r.Text(); got != s {
				t.Errorf("Text = %q, want %q", got, s)
			}
		}
		for k := range lists {
			if got := r.List(); !slices.Equal(got, lists[k]) {
				t.Errorf("List = %q, want %q", got, lists[k])
			}
			if got := r.Nums(); !slices.Equal(got, numLists[k]) {
				t.Errorf("Nums = %v, want %v", got, numLists[k])
			}
		}
		if r.Left() != len(rest) || r.Take(len(rest)) != rest || !r.Done() {
			t.Errorf("what follows is not left: %d bytes", r.Left())
		}
	}
}

// P2.6: what is decoded without an error encodes to the bytes that it was decoded from. P1: nothing panics.
func TestEncodingInvertsDecoding(t *testing.T) {
	for _, s := range samples.Words("\x00\x01\x02\x03\x7f\x80\xff", 5) {
		if consumed, ok, again := decodedBy(s, func(r *code.Reader) string { return code.Num(r.Num()) }); ok && again != consumed {
			t.Errorf("Num of %q: %q encodes to %q", s, consumed, again)
		}
		if consumed, ok, again := decodedBy(s, func(r *code.Reader) string { return code.Text(r.Text()) }); ok && again != consumed {
			t.Errorf("Text of %q: %q encodes to %q", s, consumed, again)
		}
		if consumed, ok, again := decodedBy(s, func(r *code.Reader) string { return code.List(r.List()) }); ok && again != consumed {
			t.Errorf("List of %q: %q encodes to %q", s, consumed, again)
		}
		if consumed, ok, again := decodedBy(s, func(r *code.Reader) string { return code.Nums(r.Nums()) }); ok && again != consumed {
			t.Errorf("Nums of %q: %q encodes to %q", s, consumed, again)
		}
	}
}

// decodedBy tells what one reading consumed of s, whether there was no error, and what the value encodes to.
func decodedBy(s string, recode func(*code.Reader) string) (string, bool, string) {
	r := code.Open(s)
	again := recode(r)
	left := r.Left()
	r.Take(left)
	return s[:len(s)-left], r.Done(), again
}

// checkFailed asks that the error flag is set, that nothing is unread, and that both stay so whatever is read.
func checkFailed(t *testing.T, r *code.Reader) {
	t.Helper()
	for range 2 {
		if r.Done() || r.Left() != 0 {
			t.Fatalf("after an error: Done %v, Left %d", r.Done(), r.Left())
		}
		if s := r.Take(0); s != "" || r.Done() {
			t.Fatalf("after an error: Take(0) = %q, Done %v", s, r.Done())
		}
		if s := r.Take(1); s != "" || r.Done() {
			t.Fatalf("after an error: Take(1) = %q, Done %v", s, r.Done())
		}
		if n := r.Num(); n != 0 || r.Done() {
			t.Fatalf("after an error: Num = %d, Done %v", n, r.Done())
		}
		if s := r.Text(); s != "" || r.Done() {
			t.Fatalf("after an error: Text = %q, Done %v", s, r.Done())
		}
		if l := r.List(); len(l) != 0 || r.Done() {
			t.Fatalf("after an error: List = %q, Done %v", l, r.Done())
		}
		if l := r.Nums(); len(l) != 0 || r.Done() {
			t.Fatalf("after an error: Nums = %v, Done %v", l, r.Done())
		}
	}
}
