package charset_test

import (
	"math"
	"slices"
	"strings"
	"testing"

	"pouch/charset"
	"pouch/samples"
)

const repaired = "\xef\xbf\xbd"

var allBytes = samples.AllBytes()

// names are the known character sets as P4.3 lists them.
var names = []string{"us-ascii", "ascii", "utf-8", "utf8", "iso-8859-1", "latin1", "windows-1252", "cp1252"}

// windowsPoints are the code points of the bytes 128 to 159 in windows-1252 as P4.3 lists them.
var windowsPoints = []int{
	8364, 129, 8218, 402, 8222, 8230, 8224, 8225, 710, 8240, 352, 8249, 338, 141, 381, 143, 144, 8216, 8217, 8220,
	8221, 8226, 8211, 8212, 732, 8482, 353, 8250, 339, 157, 382, 376,
}

// edges pairs code points with their encodings, at each end of each length and beside the surrogates.
var edges = []struct {
	n int
	s string
}{
	{0, "\x00"},
	{65, "A"},
	{127, "\x7f"},
	{128, "\xc2\x80"},
	{228, "\xc3\xa4"},
	{2047, "\xdf\xbf"},
	{2048, "\xe0\xa0\x80"},
	{8364, "\xe2\x82\xac"},
	{55295, "\xed\x9f\xbf"},
	{57344, "\xee\x80\x80"},
	{65533, repaired},
	{65535, "\xef\xbf\xbf"},
	{65536, "\xf0\x90\x80\x80"},
	{128512, "\xf0\x9f\x98\x80"},
	{1114111, "\xf4\x8f\xbf\xbf"},
}

// broken pairs strings that are no valid UTF-8 with their code points.
var broken = []struct {
	s    string
	want []int
}{
	{"\xff", []int{65533}},
	{"\xfe", []int{65533}},
	{"\x80", []int{65533}},
	{"\xbf", []int{65533}},
	{"\xc3", []int{65533}},
	{"\xe2\x82", []int{65533, 65533}},
	{"\xf0\x9f\x98", []int{65533, 65533, 65533}},
	{"\xc0\x80", []int{65533, 65533}},
	{"\xc1\xbf", []int{65533, 65533}},
	{"\xe0\x80\x80", []int{65533, 65533, 65533}},
	{"\xe0\x9f\xbf", []int{65533, 65533, 65533}},
	{"\xf0\x80\x80\x80", []int{65533, 65533, 65533, 65533}},
	{"\xf0\x8f\xbf\xbf", []int{65533, 65533, 65533, 65533}},
	{"\xed\xa0\x80", []int{65533, 65533, 65533}},
	{"\xed\xbf\xbf", []int{65533, 65533, 65533}},
	{"\xed\xa0\xbd\xed\xb8\x80", []int{65533, 65533, 65533, 65533, 65533, 65533}},
	{"\xf4\x90\x80\x80", []int{65533, 65533, 65533, 65533}},
	{"\xf5\x80\x80\x80", []int{65533, 65533, 65533, 65533}},
	{"\xf8\x88\x80\x80\x80", []int{65533, 65533, 65533, 65533, 65533}},
	{"\xc3a", []int{65533, 97}},
	{"\xe2\x82a", []int{65533, 65533, 97}},
	{"\xf0\x9f\x98a", []int{65533, 65533, 65533, 97}},
	{"\xc3\xc3\xa4", []int{65533, 228}},
	{"\xe2\x82\xc3\xa4", []int{65533, 65533, 228}},
	{"\xf0\x9f\xe2\x82\xac", []int{65533, 65533, 8364}},
	{"\xe2\xf0\x9f\x98\x80", []int{65533, 128512}},
	{"\xc3\xa4\xa4", []int{228, 65533}},
	{"\xe2\x82\xac\x80", []int{8364, 65533}},
	{"\xf0\x9f\x98\x80\xbf", []int{128512, 65533}},
	{"a\xffb\xffc", []int{97, 65533, 98, 65533, 99}},
	{repaired + "\xff" + repaired, []int{65533, 65533, 65533}},
}

func encodings(points []int) string {
	var s strings.Builder
	for _, n := range points {
		s.WriteString(samples.Encoding(n))
	}
	return s.String()
}

// decoded are the code points of s, as the chapter defines its decoding from left to right.
func decoded(s string) []int {
	var points []int
	for len(s) > 0 {
		point, length := samples.FirstRune(s)
		if length == 0 {
			point, length = 65533, 1
		}
		points = append(points, point)
		s = s[length:]
	}
	return points
}

// P4.1: Rune gives the encoding of a code point, at the edges of each length.
func TestRuneOfEdges(t *testing.T) {
	for _, c := range edges {
		if got := charset.Rune(c.n); got != c.s {
			t.Errorf("Rune(%d) = %q, want %q", c.n, got, c.s)
		}
	}
}

// P4.1: Rune gives the encoding of every code point; Runes and Valid read each of them.
func TestEveryCodePoint(t *testing.T) {
	for n := range 1114112 {
		if !samples.IsRune(n) {
			continue
		}
		s := samples.Encoding(n)
		if got := charset.Rune(n); got != s {
			t.Errorf("Rune(%d) = %q, want %q", n, got, s)
		}
		if got := charset.Runes(s); len(got) != 1 || got[0] != n {
			t.Errorf("Runes(%q) = %v, want %d", s, got, n)
		}
		if !charset.Valid(s) || charset.Repair(s) != s {
			t.Errorf("Valid(%q) = %v, Repair = %q", s, charset.Valid(s), charset.Repair(s))
		}
	}
}

// P4.1: Rune gives the encoding of 65533 for every integer that is no code point, however far away.
func TestRuneOfOtherIntegers(t *testing.T) {
	others := []int{-1, -2, -65, -128, -1114111, math.MinInt32, math.MinInt, 55296, 55297, 56320, 57342, 57343,
		1114112, 1114113, 2097151, math.MaxInt32, math.MaxInt32 + 1, 1<<32 + 65, 1<<40 + 228, -1<<32 + 65, math.MaxInt}
	for n := 55296; n <= 57343; n++ {
		others = append(others, n)
	}
	for n := range 100000 {
		others = append(others, -1-n, 1114112+n, math.MaxInt-n, math.MinInt+n, 1<<32+n)
	}
	for _, n := range others {
		if got := charset.Rune(n); got != repaired {
			t.Errorf("Rune(%d) = %q, want %q", n, got, repaired)
		}
	}
}

// P4.1: Runes and Valid read one encoding after the other.
func TestRunesOfValidStrings(t *testing.T) {
	all, points := "", []int{}
	for _, c := range edges {
		all, points = all+c.s, append(points, c.n)
		if got := charset.Runes(all); !slices.Equal(got, points) {
			t.Errorf("Runes(%q) = %v, want %v", all, got, points)
		}
		if !charset.Valid(all) {
			t.Errorf("Valid(%q) = false", all)
		}
	}
	if got := charset.Runes(""); len(got) != 0 || !charset.Valid("") {
		t.Errorf("Runes of the empty string = %v, Valid = %v", got, charset.Valid(""))
	}
}

// P4.1, P4.2: each byte that begins no encoding is read as 65533 alone, and decoding goes on at the next byte.
func TestBrokenStrings(t *testing.T) {
	for _, c := range broken {
		if got := charset.Runes(c.s); !slices.Equal(got, c.want) {
			t.Errorf("Runes(%q) = %v, want %v", c.s, got, c.want)
		}
		if charset.Valid(c.s) {
			t.Errorf("Valid(%q) = true", c.s)
		}
		if got, want := charset.Repair(c.s), encodings(c.want); got != want {
			t.Errorf("Repair(%q) = %q, want %q", c.s, got, want)
		}
		around := "x" + c.s + "y"
		want := slices.Concat([]int{'x'}, c.want, []int{'y'})
		if got := charset.Runes(around); !slices.Equal(got, want) || charset.Valid(around) {
			t.Errorf("Runes(%q) = %v, want %v; Valid = %v", around, got, want, charset.Valid(around))
		}
	}
}

// P4.2: Repair puts three bytes in place of each byte that begins no encoding, and leaves the others.
func TestRepair(t *testing.T) {
	for _, c := range []struct{ s, want string }{
		{"", ""},
		{"abc", "abc"},
		{"\x00\x7f", "\x00\x7f"},
		{"\xff", "\xef\xbf\xbd"},
		{"\xff\xff\xff", "\xef\xbf\xbd\xef\xbf\xbd\xef\xbf\xbd"},
		{"\xc3\xa4\xff", "\xc3\xa4\xef\xbf\xbd"},
		{"\xe2\x82", "\xef\xbf\xbd\xef\xbf\xbd"},
		{"a\xc3b", "a\xef\xbf\xbdb"},
		{"\xef\xbf\xbd", "\xef\xbf\xbd"},
		{"\xef\xbb\xbfa", "\xef\xbb\xbfa"},
	} {
		if got := charset.Repair(c.s); got != c.want {
			t.Errorf("Repair(%q) = %q, want %q", c.s, got, c.want)
		}
	}
}

// P4.1, P4.2, P4.4, P1: strings of all kinds are decoded as the chapter defines it; Repair gives valid UTF-8, is idempotent and leaves valid UTF-8 as it is.
func TestAnyStrings(t *testing.T) {
	for _, s := range samples.Texts() {
		points := decoded(s)
		want := encodings(points)
		if got := charset.Runes(s); !slices.Equal(got, points) {
			t.Errorf("Runes(%.40q) = %v, want %v", s, got, points)
		}
		if got := charset.Valid(s); got != (want == s) {
			t.Errorf("Valid(%.40q) = %v", s, got)
		}
		got := charset.Repair(s)
		if got != want {
			t.Errorf("Repair(%.40q) = %.40q, want %.40q", s, got, want)
		}
		if !charset.Valid(got) || charset.Repair(got) != got {
			t.Errorf("Repair(%.40q) = %.40q, which is not valid or repaired once more", s, got)
		}
	}
}

// cased lists a name in all mixtures of lower and upper case.
func cased(name string) []string {
	list := []string{""}
	for i := range len(name) {
		letter := name[i : i+1]
		var longer []string
		for _, s := range list {
			longer = append(longer, s+letter)
			if upper := strings.ToUpper(letter); upper != letter {
				longer = append(longer, s+upper)
			}
		}
		list = longer
	}
	return list
}

// knownNames holds every name that is known.
func knownNames() map[string]bool {
	known := map[string]bool{}
	for _, name := range names {
		for _, s := range cased(name) {
			known[s] = true
		}
	}
	return known
}

// unknownNames lists names that are not known, most of them close to a known one.
func unknownNames() []string {
	list := []string{
		"", " ", "-", "\x00", "x", "utf", "utf-", "utf-7", "utf-16", "utf_8", "utf--8", "utf-8-utf-8", "utf-88", "utf 8", "unicode-1-1-utf-8",
		"us", "us_ascii", "usascii", "us-asci", "us-asciii", "ansi_x3.4-1968", "ascii8", "iso-8859", "iso-8859-2", "iso-8859-15",
		"iso8859-1", "iso_8859-1", "latin", "latin-1", "latin2", "l1", "windows-1251", "windows1252", "windows", "cp-1252", "cp1251", "1252", "koi8-r",
		"\u212alatin1", "latin1\xff", "\xfflatin1", "utf-8\x00", "utf-8,utf-8", "\"utf-8\"",
		// Letters that only another folding of case than that of ASCII makes s, i or a digit of these names.
		"u\u017f-ascii", "a\u017fcii", "US-A\u017fCII", "window\u017f-1252", "i\u017fo-8859-1",
		"lat\u0130n1", "LAT\u0130N1", "lat\u0131n1", "us-asc\u0130i", "\u0130so-8859-1", "\u0131so-8859-1", "w\u0130ndows-1252",
		"\uff55\uff54\uff46-8", "utf\u20108", "utf-\u0668", "utf-\uff18",
		strings.Repeat("utf-8", 1000),
	}
	known := knownNames()
	for _, name := range names {
		for _, blank := range []string{" ", "\t", "\r\n", "\x00", "-", "s", "\u00a0"} {
			list = append(list, blank+name, name+blank, strings.ToUpper(name)+blank)
		}
		for i := range len(name) {
			list = append(list, name[:i]+name[i+1:], name[:i]+" "+name[i:], name[:i]+name[i:i+1]+name[i:])
			for b := range len(allBytes) {
				list = append(list, name[:i]+allBytes[b:b+1]+name[i+1:])
			}
		}
	}
	return slices.DeleteFunc(list, func(name string) bool { return known[name] })
}

// P4.3: Known accepts the eight names in lower, upper and mixed case.
func TestKnownNames(t *testing.T) {
	for name := range knownNames() {
		if !charset.Known(name) {
			t.Errorf("Known(%q) = false", name)
		}
	}
	for _, name := range []string{"US-ASCII", "Ascii", "UTF-8", "Utf8", "ISO-8859-1", "Latin1", "Windows-1252", "CP1252"} {
		if !charset.Known(name) {
			t.Errorf("Known(%q) = false", name)
		}
	}
}

// P4.3: Known accepts no other name.
func TestUnknownNames(t *testing.T) {
	for _, name := range unknownNames() {
		if charset.Known(name) {
			t.Errorf("Known(%q) = true", name)
		}
	}
}

// point is the code point of a byte in a character set in which every byte is a character.
func point(name string, b int) int {
	switch {
	case b < 128 || name == "iso-8859-1" || name == "latin1":
		return b
	case name == "us-ascii" || name == "ascii":
		return 65533
	case b < 160:
		return windowsPoints[b-128]
	}
	return b
}

// wanted is the text of s in a character set, by its name in lower case; windows-1252 if that is none of the eight.
func wanted(name, s string) string {
	if name == "utf-8" || name == "utf8" {
		return encodings(decoded(s))
	}
	points := make([]int, len(s))
	for i := range points {
		points[i] = point(name, int(s[i]))
	}
	return encodings(points)
}

// P4.3: texts whose decoding is written out.
func TestDecodeOfKnownTexts(t *testing.T) {
	for _, c := range []struct{ name, s, want string }{
		{"us-ascii", "", ""},
		{"us-ascii", "az\x00\x7f", "az\x00\x7f"},
		{"us-ascii", "a\x80\x9f\xa0\xff", "a\ufffd\ufffd\ufffd\ufffd"},
		{"ascii", "\xc3\xa4", "\ufffd\ufffd"},
		{"utf-8", "", ""},
		{"utf-8", "\xc3\xa4\xff", "ä\ufffd"},
		{"utf8", "\xe2\x82\xac\x80", "€\ufffd"},
		{"iso-8859-1", "", ""},
		{"iso-8859-1", "\x7f\x80\x9f\xa0\xe4\xff", "\x7f\u0080\u009f\u00a0äÿ"},
		{"latin1", "\xc3\xa4", "Ã¤"},
		{"windows-1252", "", ""},
		{"windows-1252", "\x7f\x80\x81\x8c\x93\x99\x9f\xa0\xe4\xff", "\x7f€\u0081Œ“™Ÿ\u00a0äÿ"},
		{"cp1252", "\x8d\x8f\x90\x9d", "\u008d\u008f\u0090\u009d"},
		{"cp1252", "\xe2\x82\xac", "â‚¬"},
	} {
		if got, ok := charset.Decode(c.name, c.s); got != c.want || !ok {
			t.Errorf("Decode(%q, %q) = %q, %v, want %q, true", c.name, c.s, got, ok, c.want)
		}
	}
}

// P4.3: every byte under every name, in every case of it.
func TestDecodeOfEveryByte(t *testing.T) {
	for _, name := range names {
		for _, variant := range cased(name) {
			for b := range len(allBytes) {
				s := allBytes[b : b+1]
				if got, ok := charset.Decode(variant, s); got != wanted(name, s) || !ok {
					t.Errorf("Decode(%q, %q) = %q, %v, want %q, true", variant, s, got, ok, wanted(name, s))
				}
			}
		}
	}
}

// P4.3, P4.4, P1: strings of all kinds under every name.
func TestDecodeOfAnyStrings(t *testing.T) {
	strs := samples.Texts()
	for _, name := range append(slices.Clone(names), "", "utf-16") {
		known := slices.Contains(names, name)
		for _, s := range strs {
			got, ok := charset.Decode(name, s)
			if got != wanted(name, s) || ok != known {
				t.Errorf("Decode(%q, %.40q) = %.40q, %v, want %.40q, %v", name, s, got, ok, wanted(name, s), known)
			}
			if !charset.Valid(got) {
				t.Errorf("Decode(%q, %.40q) = %.40q, which is not valid", name, s, got)
			}
		}
	}
}

// P4.3, P4.4: under an unknown name the text is that of windows-1252, beside a false.
func TestDecodeOfUnknownNames(t *testing.T) {
	s := "a\x00\x7f\x80\x81\x9f\xa0\xff\xc3\xa4\xe2\x82\xac"
	want := "a\x00\x7f€\u0081Ÿ\u00a0ÿÃ¤â‚¬"
	for _, name := range unknownNames() {
		got, ok := charset.Decode(name, s)
		if got != want || ok {
			t.Errorf("Decode(%q, %q) = %q, %v, want %q, false", name, s, got, ok, want)
		}
		if empty, ok := charset.Decode(name, ""); empty != "" || ok {
			t.Errorf("Decode(%q, \"\") = %q, %v", name, empty, ok)
		}
	}
}

// P4.3: Known agrees with what Decode tells beside the text.
func TestKnownAgreesWithDecode(t *testing.T) {
	list := unknownNames()
	for name := range knownNames() {
		list = append(list, name)
	}
	for _, name := range list {
		if _, ok := charset.Decode(name, "\xe4"); ok != charset.Known(name) {
			t.Errorf("Known(%q) = %v, Decode tells %v", name, charset.Known(name), ok)
		}
	}
}

// R2: no call changes what it is given, and an answer stays as it was when another one is changed.
func TestArgumentsAreLeftAlone(t *testing.T) {
	bytes := []byte("a\xc3\xa4\xff" + samples.Noise(1000, 1))
	s, nameBytes := string(bytes), []byte("Utf-8")
	name := string(nameBytes)
	points := charset.Runes(s)
	before := slices.Clone(points)
	charset.Valid(s)
	repairedText := charset.Repair(s)
	charset.Known(name)
	text, ok := charset.Decode(name, s)
	if s != string(bytes) || name != string(nameBytes) {
		t.Error("an argument changed")
	}
	if text != repairedText || !ok {
		t.Errorf("Decode tells %v, another text than Repair", ok)
	}
	for i := range points {
		points[i] = -1
	}
	if !slices.Equal(charset.Runes(s), before) || charset.Repair(s) != repairedText {
		t.Error("the answers changed")
	}
	_ = append(charset.Runes("abc")[:1], 7)
	if !slices.Equal(charset.Runes("abc"), []int{97, 98, 99}) {
		t.Error("the answer of Runes changed")
	}
}
