package num_test

import (
	"strings"
	"testing"

	"pouch/api"
	"pouch/num"
	"pouch/samples"
)

// decimals pairs integers with their canonical decimal forms.
var decimals = []struct {
	n int
	s string
}{
	{0, "0"},
	{1, "1"},
	{9, "9"},
	{10, "10"},
	{90, "90"},
	{1000, "1000"},
	{1234567890, "1234567890"},
	{-1, "-1"},
	{-10, "-10"},
	{-1234567890, "-1234567890"},
	{api.MaxInt, "9223372036854775807"},
	{api.MaxInt - 1, "9223372036854775806"},
	{api.MinInt, "-9223372036854775808"},
	{api.MinInt + 1, "-9223372036854775807"},
}

// P1.1: Text gives the canonical decimal form.
func TestTextIsCanonical(t *testing.T) {
	for _, d := range decimals {
		if got := num.Text(d.n); got != d.s {
			t.Errorf("Text(%d) = %q, want %q", d.n, got, d.s)
		}
	}
}

// P1.1: Parse reads the canonical decimal form of every integer.
func TestParseReadsCanonicalForms(t *testing.T) {
	for _, d := range decimals {
		if n, ok := num.Parse(d.s, api.MinInt, api.MaxInt); n != d.n || !ok {
			t.Errorf("Parse(%q) = %d, %v, want %d, true", d.s, n, ok, d.n)
		}
	}
}

// P1.1: Parse rejects every string that is no canonical decimal form of an int.
func TestParseRejectsOtherForms(t *testing.T) {
	wrong := []string{
		"", "-", "+", "--", "--1", "-+1", "1-", "1-2",
		"+0", "+1", "+9223372036854775807",
		"00", "01", "007", "-01", "-007", "000", "-0", "-00",
		" ", " 1", "1 ", " 1 ", "- 1", "1 2", "\t1", "1\n", "1\r\n",
		"a", "1a", "a1", "0x10", "x", "1_000", "1,000", "1.0", "1e3", "1/", "1:", "/", ":",
		"9223372036854775808", "-9223372036854775809",
		"9999999999999999999", "18446744073709551616", "18446744073709551617", "-18446744073709551615",
		"1" + strings.Repeat("0", 5000), "-1" + strings.Repeat("0", 5000),
		"0" + strings.Repeat("0", 5000),
		"\x00", "1\x00", "\x001", "\xff", "1\xff", "\u0661", "1\u0661", "\uff11", "\u22121",
	}
	for _, s := range wrong {
		if n, ok := num.Parse(s, api.MinInt, api.MaxInt); n != 0 || ok {
			t.Errorf("Parse(%q) = %d, %v, want 0, false", s, n, ok)
		}
	}
}

// P1.1: Parse accepts a string of one byte exactly if it is a digit.
func TestParseOfEveryByte(t *testing.T) {
	for b := range 256 {
		want, wantOK := 0, '0' <= b && b <= '9'
		if wantOK {
			want = b - '0'
		}
		if n, ok := num.Parse(string([]byte{byte(b)}), api.MinInt, api.MaxInt); n != want || ok != wantOK {
			t.Errorf("Parse of byte %d = %d, %v, want %d, %v", b, n, ok, want, wantOK)
		}
		if _, ok := num.Parse(string([]byte{'1', byte(b), '2'}), api.MinInt, api.MaxInt); ok != wantOK {
			t.Errorf("Parse with byte %d in the middle: %v, want %v", b, ok, wantOK)
		}
	}
}

// P1.1: the range of Parse includes both its bounds and nothing beyond them.
func TestParseKeepsToTheRange(t *testing.T) {
	for _, c := range []struct {
		s         string
		low, high int
		n         int
		ok        bool
	}{
		{"5", 5, 5, 5, true},
		{"5", 5, 9, 5, true},
		{"5", 1, 5, 5, true},
		{"5", 6, 9, 0, false},
		{"5", 1, 4, 0, false},
		{"5", 6, 4, 0, false},
		{"5", 9, 1, 0, false},
		{"0", 0, 0, 0, true},
		{"0", 1, 9, 0, false},
		{"0", -9, -1, 0, false},
		{"-5", -5, -5, -5, true},
		{"-5", -4, 4, 0, false},
		{"-5", -9, -6, 0, false},
		{"-5", 0, api.MaxInt, 0, false},
		{"9223372036854775807", api.MaxInt, api.MaxInt, api.MaxInt, true},
		{"9223372036854775807", api.MinInt, api.MaxInt - 1, 0, false},
		{"9223372036854775806", api.MaxInt, api.MaxInt, 0, false},
		{"-9223372036854775808", api.MinInt, api.MinInt, api.MinInt, true},
		{"-9223372036854775808", api.MinInt + 1, api.MaxInt, 0, false},
		{"-9223372036854775807", api.MinInt, api.MinInt, 0, false},
		{"0", api.MaxInt, api.MinInt, 0, false},
	} {
		if n, ok := num.Parse(c.s, c.low, c.high); n != c.n || ok != c.ok {
			t.Errorf("Parse(%q, %d, %d) = %d, %v, want %d, %v", c.s, c.low, c.high, n, ok, c.n, c.ok)
		}
	}
}

// P1.2: Pad fills up with zeros and never cuts.
func TestPad(t *testing.T) {
	for _, c := range []struct {
		n, width int
		want     string
	}{
		{7, 3, "007"},
		{0, 0, "0"},
		{0, 1, "0"},
		{0, 2, "00"},
		{7, 0, "7"},
		{7, 1, "7"},
		{7, 2, "07"},
		{123, 3, "123"},
		{1234, 3, "1234"},
		{1234, 0, "1234"},
		{5, 99, strings.Repeat("0", 98) + "5"},
		{5, 100, strings.Repeat("0", 99) + "5"},
		{0, 100, strings.Repeat("0", 100)},
		{api.MaxInt, 0, "9223372036854775807"},
		{api.MaxInt, 20, "09223372036854775807"},
		{api.MaxInt, 100, strings.Repeat("0", 81) + "9223372036854775807"},
	} {
		if got := num.Pad(c.n, c.width); got != c.want {
			t.Errorf("Pad(%d, %d) = %q, want %q", c.n, c.width, got, c.want)
		}
	}
}

// P1.2: Pad gives the empty string for a negative number and for a width out of range.
func TestPadRejects(t *testing.T) {
	for _, c := range [][2]int{
		{-1, 0}, {-1, 3}, {-1, 100}, {api.MinInt, 3}, {api.MinInt, 100},
		{5, -1}, {0, -1}, {5, api.MinInt},
		{5, 101}, {0, 101}, {api.MaxInt, 101}, {5, api.MaxInt},
		{-1, -1}, {-1, 101},
	} {
		if got := num.Pad(c[0], c[1]); got != "" {
			t.Errorf("Pad(%d, %d) = %q, want the empty string", c[0], c[1], got)
		}
	}
}

// P1.2: Clamp asks for the lower bound first.
func TestClamp(t *testing.T) {
	for _, c := range []struct{ n, low, high, want int }{
		{2, 1, 3, 2},
		{1, 1, 3, 1},
		{3, 1, 3, 3},
		{0, 1, 3, 1},
		{4, 1, 3, 3},
		{1, 1, 1, 1},
		{-5, -9, -6, -6},
		{-5, -4, 4, -4},
		{5, 9, 3, 9},
		{9, 9, 3, 3},
		{10, 9, 3, 3},
		{2, 9, 3, 9},
		{api.MinInt, api.MinInt, api.MaxInt, api.MinInt},
		{api.MaxInt, api.MinInt, api.MaxInt, api.MaxInt},
		{api.MinInt, 0, 1, 0},
		{api.MaxInt, 0, 1, 1},
		{0, api.MaxInt, api.MinInt, api.MaxInt},
		{api.MaxInt, api.MaxInt, api.MinInt, api.MinInt},
	} {
		if got := num.Clamp(c.n, c.low, c.high); got != c.want {
			t.Errorf("Clamp(%d, %d, %d) = %d, want %d", c.n, c.low, c.high, got, c.want)
		}
	}
}

// P1.3: Hex gives two lower-case digits for each byte, the high one first.
func TestHex(t *testing.T) {
	for _, c := range [][2]string{
		{"", ""},
		{"\x00", "00"},
		{"\x00\xff", "00ff"},
		{"\x0f\xf0", "0ff0"},
		{"\x12\xab\xcd\xef", "12abcdef"},
		{"pouch", "706f756368"},
		{"\u00e9", "c3a9"},
		{"\xe9\x80", "e980"},
	} {
		if got := num.Hex(c[0]); got != c[1] {
			t.Errorf("Hex(%q) = %q, want %q", c[0], got, c[1])
		}
	}
}

// P1.3: Unhex reads upper and lower case, also mixed.
func TestUnhex(t *testing.T) {
	for _, c := range [][2]string{
		{"", ""},
		{"00", "\x00"},
		{"00ff", "\x00\xff"},
		{"00FF", "\x00\xff"},
		{"fF", "\xff"},
		{"Ff", "\xff"},
		{"0123456789abcdef", "\x01\x23\x45\x67\x89\xab\xcd\xef"},
		{"0123456789ABCDEF", "\x01\x23\x45\x67\x89\xab\xcd\xef"},
		{"706f756368", "pouch"},
		{"c3a9", "\u00e9"},
	} {
		if got, ok := num.Unhex(c[0]); got != c[1] || !ok {
			t.Errorf("Unhex(%q) = %q, %v, want %q, true", c[0], got, ok, c[1])
		}
	}
}

// P1.3: Unhex gives the empty string and false for an odd length or a wrong byte, wherever it is.
func TestUnhexRejects(t *testing.T) {
	wrong := []string{
		"0", "a", "000", "00f", "g", "\u0661f",
		"0g", "g0", "0G", "G0", "@0", "0@", "0/", "/0", "0:", ":0", "0`", "`0",
		" 0", "0 ", " 00 ", "0 0 ", "0x", "0x00", "-1", "+1", "\n0", "00\n",
		"00ff0g", "00ffg0", "0g00ff", "g000ff", "00gg00ff",
		"\x00\x00", "0\x00", "\xff\xff", "\u0661", "\uff11f",
	}
	for _, s := range wrong {
		if got, ok := num.Unhex(s); got != "" || ok {
			t.Errorf("Unhex(%q) = %q, %v, want the empty string, false", s, got, ok)
		}
	}
}

// P1.3: in each of its two places, exactly the 22 hexadecimal digits are accepted.
func TestUnhexOfEveryByte(t *testing.T) {
	for b := range 256 {
		value := strings.IndexByte("0123456789abcdef", byte(b))
		if 'A' <= b && b <= 'F' {
			value = b - 'A' + 10
		}
		high, low := "", ""
		if value >= 0 {
			high, low = string([]byte{byte(value<<4 | 1)}), string([]byte{byte(1<<4 | value)})
		}
		if got, ok := num.Unhex(string([]byte{byte(b), '1'})); got != high || ok != (value >= 0) {
			t.Errorf("Unhex with byte %d first: %q, %v", b, got, ok)
		}
		if got, ok := num.Unhex(string([]byte{'1', byte(b)})); got != low || ok != (value >= 0) {
			t.Errorf("Unhex with byte %d second: %q, %v", b, got, ok)
		}
	}
}

// P1.4: Parse inverts Text, at the ends of the range of int and between them.
func TestParseInvertsText(t *testing.T) {
	check := func(n int) {
		if m, ok := num.Parse(num.Text(n), n, n); m != n || !ok {
			t.Errorf("Parse(Text(%d)) = %d, %v", n, m, ok)
		}
	}
	for n := range 2000 {
		check(n)
		check(-n)
		check(api.MaxInt - n)
		check(api.MinInt + n)
	}
	for bit := range 63 {
		for _, n := range []int{1<<bit - 1, 1 << bit, 1<<bit + 1} {
			check(n)
			check(-n)
		}
	}
}

// P1.4: what Parse accepts is what Text gives.
func TestTextInvertsParse(t *testing.T) {
	for _, s := range samples.Words("-+019 a", 4) {
		if n, ok := num.Parse(s, api.MinInt, api.MaxInt); ok && num.Text(n) != s {
			t.Errorf("Parse took %q for %d", s, n)
		}
	}
}

// P1.4: Unhex inverts Hex, for the digits of either case.
func TestUnhexInvertsHex(t *testing.T) {
	all := samples.AllBytes()
	texts := []string{"", "pouch", "caf\u00e9", "\xff\xfe\xfd", all, strings.Repeat("\x00\xff", 5000)}
	for b := range len(all) {
		texts = append(texts, all[b:b+1], all[:b])
	}
	for _, s := range texts {
		hex := num.Hex(s)
		if len(hex) != 2*len(s) || hex != strings.ToLower(hex) {
			t.Errorf("Hex(%q) = %q", s, hex)
		}
		for _, h := range []string{hex, strings.ToUpper(hex)} {
			if got, ok := num.Unhex(h); got != s || !ok {
				t.Errorf("Unhex(%q) = %q, %v, want %q, true", h, got, ok, s)
			}
		}
	}
}

// P1, R3: no argument makes a call panic, and beside a false there is only a zero value.
func TestCallsOfAnyArguments(t *testing.T) {
	numbers := []int{api.MinInt, api.MinInt + 1, -101, -1, 0, 1, 99, 100, 101, api.MaxInt - 1, api.MaxInt}
	for _, a := range numbers {
		for _, b := range numbers {
			num.Pad(a, b)
			for _, c := range numbers {
				num.Clamp(a, b, c)
				if n, ok := num.Parse(num.Text(a), b, c); !ok && n != 0 || ok != (b <= a && a <= c) {
					t.Errorf("Parse(Text(%d), %d, %d) = %d, %v", a, b, c, n, ok)
				}
			}
		}
	}
	for _, s := range samples.Words("\x00-+0fFg\xff", 4) {
		if n, ok := num.Parse(s, api.MinInt, api.MaxInt); !ok && n != 0 {
			t.Errorf("Parse(%q) = %d, false", s, n)
		}
		if bytes, ok := num.Unhex(s); !ok && bytes != "" || ok && num.Hex(bytes) != strings.ToLower(s) {
			t.Errorf("Unhex(%q) = %q, %v", s, bytes, ok)
		}
	}
}
