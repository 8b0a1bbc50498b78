package fold_test

import (
	"slices"
	"strings"
	"testing"

	"pouch/fold"
	"pouch/samples"
)

// unitsOf lists the units of s, as the chapter defines them.
func unitsOf(s string) []string {
	var units []string
	for len(s) > 0 {
		_, length := samples.FirstRune(s)
		length = max(length, 1)
		units = append(units, s[:length])
		s = s[length:]
	}
	return units
}

func between(first, n, last int) bool { return first <= n && n <= last }

// lowerOf is the lower case of a rune, as the chapter defines it.
func lowerOf(n int) int {
	switch {
	case between('A', n, 'Z'), between(0xc0, n, 0xde) && n != 0xd7, between(0x391, n, 0x3ab) && n != 0x3a2, between(0x410, n, 0x42f):
		return n + 32
	case between(0x400, n, 0x40f):
		return n + 80
	case n%2 == 0 && (between(0x100, n, 0x12f) || between(0x132, n, 0x137) || between(0x14a, n, 0x177)):
		return n + 1
	case n%2 == 1 && (between(0x139, n, 0x148) || between(0x179, n, 0x17e)):
		return n + 1
	case n == 0x178:
		return 0xff
	case n == 0x386:
		return 0x3ac
	case between(0x388, n, 0x38a):
		return n + 37
	case n == 0x38c:
		return n + 64
	case between(0x38e, n, 0x38f):
		return n + 63
	}
	return n
}

// foldedOf is s with every rune in lower case.
func foldedOf(s string) string {
	var text strings.Builder
	for _, unit := range unitsOf(s) {
		if n, length := samples.FirstRune(unit); length > 0 {
			unit = samples.Encoding(lowerOf(n))
		}
		text.WriteString(unit)
	}
	return text.String()
}

// broken pairs strings that are no valid UTF-8 with their units.
var broken = []struct {
	s    string
	want []string
}{
	{"\xff", []string{"\xff"}},
	{"\x80", []string{"\x80"}},
	{"\xbf\x80", []string{"\xbf", "\x80"}},
	{"\xc3", []string{"\xc3"}},
	{"\xc3\xc3\x84", []string{"\xc3", "Ä"}},
	{"\xc3A", []string{"\xc3", "A"}},
	{"Ä\x84", []string{"Ä", "\x84"}},
	{"\xc0\x80", []string{"\xc0", "\x80"}},
	{"\xc1\x81", []string{"\xc1", "\x81"}},
	{"\xc1\xbf", []string{"\xc1", "\xbf"}},
	{"\xe2\x82", []string{"\xe2", "\x82"}},
	{"\xe2\x82A", []string{"\xe2", "\x82", "A"}},
	{"\xe2\x82\xc3\x84", []string{"\xe2", "\x82", "Ä"}},
	{"\xe0\x80\xc1", []string{"\xe0", "\x80", "\xc1"}},
	{"\xe0\x83\x84", []string{"\xe0", "\x83", "\x84"}},
	{"\xe0\x9f\xbf", []string{"\xe0", "\x9f", "\xbf"}},
	{"\xed\xa0\x80", []string{"\xed", "\xa0", "\x80"}},
	{"\xed\xbf\xbf", []string{"\xed", "\xbf", "\xbf"}},
	{"\xf0\x9f\x98", []string{"\xf0", "\x9f", "\x98"}},
	{"\xf0\x9f\x98A", []string{"\xf0", "\x9f", "\x98", "A"}},
	{"\xf0\x9f\xe2\x82\xac", []string{"\xf0", "\x9f", "€"}},
	{"\xf0\x80\x81\x81", []string{"\xf0", "\x80", "\x81", "\x81"}},
	{"\xf0\x8f\xbf\xbf", []string{"\xf0", "\x8f", "\xbf", "\xbf"}},
	{"\xf4\x90\x80\x80", []string{"\xf4", "\x90", "\x80", "\x80"}},
	{"\xf5\x80\x80\x80", []string{"\xf5", "\x80", "\x80", "\x80"}},
	{"\xf8\x88\x80\x80\x80", []string{"\xf8", "\x88", "\x80", "\x80", "\x80"}},
	{"\ufffd\xff\ufffd", []string{"\ufffd", "\xff", "\ufffd"}},
}

// P5.1: Units splits a string into its runes, of one to four bytes.
func TestUnitsOfRunes(t *testing.T) {
	for _, c := range []struct {
		s    string
		want []string
	}{
		{"", nil},
		{"a", []string{"a"}},
		{"abc", []string{"a", "b", "c"}},
		{"\x00\x7f", []string{"\x00", "\x7f"}},
		{"Äß", []string{"Ä", "ß"}},
		{"\u0080\u07ff", []string{"\u0080", "\u07ff"}},
		{"\u0800€\uffff", []string{"\u0800", "€", "\uffff"}},
		{"\ud7ff\ue000", []string{"\ud7ff", "\ue000"}},
		{"\U00010000😀\U0010ffff", []string{"\U00010000", "😀", "\U0010ffff"}},
		{"a\u00c4€😀a", []string{"a", "\u00c4", "€", "😀", "a"}},
		{"e\u0301", []string{"e", "\u0301"}},
		{"\r\n", []string{"\r", "\n"}},
		{"\ufeffa", []string{"\ufeff", "a"}},
		{"\ufffd", []string{"\ufffd"}},
	} {
		if got := fold.Units(c.s); !slices.Equal(got, c.want) {
			t.Errorf("Units(%q) = %q, want %q", c.s, got, c.want)
		}
	}
}

// P5.1: each byte of a broken encoding is a unit of its own, which Fold leaves as it is.
func TestBrokenStrings(t *testing.T) {
	for _, c := range broken {
		if got := fold.Units(c.s); !slices.Equal(got, c.want) {
			t.Errorf("Units(%q) = %q, want %q", c.s, got, c.want)
		}
		around := "X" + c.s + "Ä"
		want := slices.Concat([]string{"X"}, c.want, []string{"Ä"})
		if got := fold.Units(around); !slices.Equal(got, want) {
			t.Errorf("Units(%q) = %q, want %q", around, got, want)
		}
		folded := strings.ReplaceAll(strings.ReplaceAll(c.s, "A", "a"), "Ä", "ä")
		if got := fold.Fold(c.s); got != folded {
			t.Errorf("Fold(%q) = %q, want %q", c.s, got, folded)
		}
		if got := fold.Fold(around); got != "x"+folded+"ä" {
			t.Errorf("Fold(%q) = %q", around, got)
		}
		if !fold.Equal(around, "x"+folded+"ä") || fold.Equal(c.s, c.s+"\xff") || fold.Equal(c.s, strings.ToValidUTF8(c.s, "\ufffd")) {
			t.Errorf("Equal of %q is wrong", c.s)
		}
	}
}

// P5.1: Fold at the first and the last rune of each range, beside them, and at the exceptions.
func TestFoldOfRunes(t *testing.T) {
	for _, c := range []struct{ n, want int }{
		{0, 0}, {'@', '@'}, {'A', 'a'}, {'Z', 'z'}, {'[', '['}, {'`', '`'}, {'a', 'a'}, {'z', 'z'}, {'{', '{'}, {'0', '0'}, {0x7f, 0x7f}, {0x80, 0x80},
		{0xaa, 0xaa}, {0xb5, 0xb5}, {0xbf, 0xbf}, {0xc0, 0xe0}, {0xc4, 0xe4}, {0xd6, 0xf6}, {0xd7, 0xd7}, {0xd8, 0xf8}, {0xde, 0xfe}, {0xdf, 0xdf},
		{0xe0, 0xe0}, {0xf7, 0xf7}, {0xfe, 0xfe}, {0xff, 0xff},
		{0x100, 0x101}, {0x101, 0x101}, {0x102, 0x103}, {0x12d, 0x12d}, {0x12e, 0x12f}, {0x12f, 0x12f}, {0x130, 0x130}, {0x131, 0x131},
		{0x132, 0x133}, {0x133, 0x133}, {0x136, 0x137}, {0x137, 0x137}, {0x138, 0x138},
		{0x139, 0x13a}, {0x13a, 0x13a}, {0x13b, 0x13c}, {0x146, 0x146}, {0x147, 0x148}, {0x148, 0x148}, {0x149, 0x149},
		{0x14a, 0x14b}, {0x14b, 0x14b}, {0x175, 0x175}, {0x176, 0x177}, {0x177, 0x177}, {0x178, 0xff},
		{0x179, 0x17a}, {0x17a, 0x17a}, {0x17c, 0x17c}, {0x17d, 0x17e}, {0x17e, 0x17e}, {0x17f, 0x17f}, {0x180, 0x180}, {0x181, 0x181}, {0x182, 0x182},
		{0x370, 0x370}, {0x385, 0x385}, {0x386, 0x3ac}, {0x387, 0x387}, {0x388, 0x3ad}, {0x389, 0x3ae}, {0x38a, 0x3af}, {0x38b, 0x38b},
		{0x38c, 0x3cc}, {0x38d, 0x38d}, {0x38e, 0x3cd}, {0x38f, 0x3ce}, {0x390, 0x390}, {0x391, 0x3b1}, {0x3a1, 0x3c1}, {0x3a2, 0x3a2},
		{0x3a3, 0x3c3}, {0x3ab, 0x3cb}, {0x3ac, 0x3ac}, {0x3c2, 0x3c2}, {0x3cf, 0x3cf}, {0x3ff, 0x3ff},
		{0x400, 0x450}, {0x401, 0x451}, {0x40f, 0x45f}, {0x410, 0x430}, {0x42f, 0x44f}, {0x430, 0x430}, {0x450, 0x450}, {0x460, 0x460},
		{0x531, 0x531}, {0x10a0, 0x10a0}, {0x1e00, 0x1e00}, {0x1e9e, 0x1e9e}, {0x20ac, 0x20ac}, {0x2126, 0x2126}, {0x212a, 0x212a}, {0x2160, 0x2160},
		{0xff21, 0xff21}, {0xfffd, 0xfffd}, {0x10400, 0x10400}, {0x1f600, 0x1f600}, {0x10ffff, 0x10ffff},
	} {
		s, want := samples.Encoding(c.n), samples.Encoding(c.want)
		if got := fold.Fold(s); got != want {
			t.Errorf("Fold of U+%04X is %q, want %q", c.n, got, want)
		}
		if !fold.Equal(s, want) || !fold.Equal(want, s) || fold.Equal(s, want+"a") || fold.Equal(s, "") {
			t.Errorf("Equal of U+%04X is wrong", c.n)
		}
	}
}

// P5.1, P5.6: every rune is one unit; Fold gives its lower case, of as many bytes.
func TestEveryRune(t *testing.T) {
	for n := range 1114112 {
		if !samples.IsRune(n) {
			continue
		}
		s, want := samples.Encoding(n), samples.Encoding(lowerOf(n))
		got := fold.Fold(s)
		if got != want || len(got) != len(s) || fold.Fold(got) != got {
			t.Errorf("Fold of U+%04X is %q, want %q", n, got, want)
		}
		if units := fold.Units(s); len(units) != 1 || units[0] != s {
			t.Errorf("Units of U+%04X is %q", n, units)
		}
	}
}

// P5.1: strings whose lower case is written out.
func TestFoldOfStrings(t *testing.T) {
	for _, c := range []struct{ s, want string }{
		{"", ""},
		{"Äß", "äß"},
		{"Hello, World 42!", "hello, world 42!"},
		{"ÀÞ×ßÿŸ", "àþ×ßÿÿ"},
		{"ĀĮİıĲĶĸĹŇŉŊŶŹŽſ", "āįİıĳķĸĺňŉŋŷźžſ"},
		{"ΆΈΊΌΎΏΑΡΣΫς", "άέίόύώαρσϋς"},
		{"ЀЏАЯя", "ѐџаяя"},
		{"A\xffB\xc3C\xe2\x82D", "a\xffb\xc3c\xe2\x82d"},
		{"A€B😀C", "a€b😀c"},
		{"STRASSE", "strasse"},
		{strings.Repeat("Ä", 3000), strings.Repeat("ä", 3000)},
	} {
		if got := fold.Fold(c.s); got != c.want {
			t.Errorf("Fold(%.40q) = %.40q, want %.40q", c.s, got, c.want)
		}
		if !fold.Equal(c.s, c.want) || !fold.Equal(c.want, c.s) {
			t.Errorf("%.40q and %.40q are not equal", c.s, c.want)
		}
	}
}

// P5.1: Equal ignores case alone.
func TestEqual(t *testing.T) {
	for _, c := range []struct {
		a, b string
		want bool
	}{
		{"", "", true},
		{"", "a", false},
		{"AbC", "aBc", true},
		{"abc", "abd", false},
		{"abc", "ab", false},
		{"äÖ", "Äö", true},
		{"ä", "a", false},
		{"ß", "ss", false},
		{"ẞ", "ß", false},
		{"K", "\u212a", false},
		{"s", "ſ", false},
		{"Σ", "σ", true},
		{"Σ", "ς", false},
		{"İ", "i", false},
		{"I", "ı", false},
		{"é", "e\u0301", false},
		{"\xc4", "\xe4", false},
		{"\xff", "\xff", true},
		{"\xff", "\xfe", false},
		{"\xff", "\ufffd", false},
		{"[", "{", false},
		{"@", "`", false},
	} {
		if got := fold.Equal(c.a, c.b); got != c.want || fold.Equal(c.b, c.a) != c.want {
			t.Errorf("Equal(%q, %q) = %v, want %v", c.a, c.b, got, c.want)
		}
	}
}

// P5.1, P5.6, P1: strings of all kinds are split and folded as the chapter defines it; Fold keeps the length of every unit and is idempotent.
func TestAnyStrings(t *testing.T) {
	last := ""
	for _, s := range samples.Texts() {
		units, want := fold.Units(s), foldedOf(s)
		if !slices.Equal(units, unitsOf(s)) || strings.Join(units, "") != s {
			t.Errorf("Units(%.40q) = %.40q", s, units)
		}
		got := fold.Fold(s)
		if got != want || fold.Fold(got) != got {
			t.Errorf("Fold(%.40q) = %.40q, want %.40q", s, got, want)
		}
		if !sameLengths(units, fold.Units(got)) {
			t.Errorf("the units of Fold(%.40q) have other lengths", s)
		}
		if !fold.Equal(s, got) || fold.Equal(s, last) != (want == foldedOf(last)) {
			t.Errorf("Equal of %.40q is wrong", s)
		}
		last = s
	}
}

func sameLengths(a, b []string) bool {
	return slices.EqualFunc(a, b, func(x, y string) bool { return len(x) == len(y) })
}
