package words_test

import (
	"fmt"
	"regexp"
	"strings"
	"testing"

	"pouch/charset"
	"pouch/codec"
	"pouch/header"
	"pouch/samples"
	"pouch/words"
)

var printableOnly = regexp.MustCompile(`\A[ -~]*\z`)

// staysPlain reports whether Encode leaves s as it is, as the chapter defines it.
func staysPlain(s string) bool {
	return printableOnly.MatchString(wide(s)) && !strings.Contains(s, "=?")
}

// wordOf is the encoded word of code points.
func wordOf(points []rune) string {
	return "=?utf-8?Q?" + codec.Q(string(points)) + "?="
}

// encodedOf is what Encode returns, as the chapter defines it.
func encodedOf(s string) string {
	if staysPlain(s) {
		return s
	}
	points := []rune(charset.Repair(s))
	var list []string
	for len(points) > 0 {
		n := 1
		for n < len(points) && len(wordOf(points[:n+1])) <= 75 {
			n++
		}
		list = append(list, wordOf(points[:n]))
		points = points[n:]
	}
	return strings.Join(list, " ")
}

// checkEncode holds what Encode returns for s against what is wanted, and against what Decode gives back.
func checkEncode(t *testing.T, s, want string) {
	t.Helper()
	got := words.Encode(s)
	if got != want {
		t.Errorf("Encode(%.90q) = %.200q, want %.200q", s, got, want)
	}
	if !printableOnly.MatchString(wide(got)) {
		t.Errorf("Encode(%.90q) = %.200q: bytes that can't be written", s, got)
	}
	checkDecode(t, got, charset.Repair(s))
}

// as is a string of n letters.
func as(n int) string { return strings.Repeat("a", n) }

// manyTexts lists strings of all kinds.
func manyTexts() []string {
	list := samples.Words("a =?_\x00\t\xc3\xa4\xff", 4)
	for seed := range uint64(200) {
		list = append(list, samples.Noise(300, seed), drawn("ab =?_=3D~", 60, seed), drawn("ab \n=?_", 100, seed))
	}
	for _, unit := range []string{"a", " ", "_", "=", "=?", "?=", "\n", "\x7f", "ä", "€", "😀", "\xff", "aä€😀", "=?utf-8?q?a?= "} {
		for n := range 80 {
			list = append(list, strings.Repeat(unit, n), strings.Repeat(unit, n)+"é", as(n)+strings.Repeat(unit, 50)+"\x01")
		}
	}
	return list
}

// P13.2, P13.3: what is printable ASCII without an opening stays as it is, however long it is.
func TestEncodePlain(t *testing.T) {
	var printable string
	for b := byte(32); b < 127; b++ {
		printable += string([]byte{b})
		checkEncode(t, string([]byte{b}), string([]byte{b}))
	}
	for _, s := range []string{"", " ", "  ", " a ", "a  b", "a ~", "=", "?", "?=", "= ?", "==", "??", "a=b?", "?a=", "=a?", "utf-8?Q?a?=", "=41", "_", "\"", "\\", printable, as(75), as(76), as(5000), strings.Repeat("ab ", 1000), strings.Repeat("= ?", 500)} {
		checkEncode(t, s, s)
	}
}

// P13.2: each of the other strings is encoded as a whole.
func TestEncode(t *testing.T) {
	for s, inner := range map[string]string{
		"=?":               "=3D=3F",
		"=?a":              "=3D=3Fa",
		"a=?":              "a=3D=3F",
		"a =? b":           "a_=3D=3F_b",
		"a =?b? =? c":      "a_=3D=3Fb=3F_=3D=3F_c",
		"==?":              "=3D=3D=3F",
		"=?utf-8?q?a?=":    "=3D=3Futf-8=3Fq=3Fa=3F=3D",
		"=?utf-8?Q??=":     "=3D=3Futf-8=3FQ=3F=3F=3D",
		"\t":               "=09",
		"\r":               "=0D",
		"\n":               "=0A",
		"a\r\n b":          "a=0D=0A_b",
		"\x00":             "=00",
		"\x1f":             "=1F",
		"\x7f":             "=7F",
		"~\x7f ":           "=7E=7F_",
		"\xff":             "=EF=BF=BD",
		"\xff\xfe":         "=EF=BF=BD=EF=BF=BD",
		"\xc3":             "=EF=BF=BD",
		"a\xc3 \xa4":       "a=EF=BF=BD_=EF=BF=BD",
		"\xed\xa0\x80":     "=EF=BF=BD=EF=BF=BD=EF=BF=BD",
		"ä b":              "=C3=A4_b",
		" ä ":              "_=C3=A4_",
		"€":                "=E2=82=AC",
		"😀":                "=F0=9F=98=80",
		"Jörg Müller_":     "J=C3=B6rg_M=C3=BCller=5F",
		"é!*+-/09AZaz.,()": "=C3=A9!*+-/09AZaz=2E=2C=28=29",
	} {
		checkEncode(t, s, "=?utf-8?Q?"+inner+"?=")
	}
}

// P13.2: each single byte alone, and beside others.
func TestEncodeBytes(t *testing.T) {
	all := samples.AllBytes()
	for i := range len(all) {
		b := all[i : i+1]
		want := b
		if i < 32 || i == 127 {
			want = fmt.Sprintf("=?utf-8?Q?=%02X?=", i)
		} else if i > 127 {
			want = "=?utf-8?Q?=EF=BF=BD?="
		}
		checkEncode(t, b, want)
		for _, s := range []string{"a" + b, b + "a", "a" + b + "c", b + b, "é" + b, b + "é", "\n" + b, "=" + b, b + "?", " " + b + " "} {
			checkEncode(t, s, encodedOf(s))
		}
	}
	checkEncode(t, all, encodedOf(all))
}

// P13.2: words of 75 bytes and of a byte less, and where the next code point does not fit any more.
func TestEncodeBounds(t *testing.T) {
	word := func(inner string) string { return "=?utf-8?Q?" + inner + "?=" }
	// A word of 75 bytes has 63 bytes of encoded text.
	for _, c := range []struct{ s, want string }{
		{"\x01" + as(59), word("=01" + as(59))},
		{"\x01" + as(60), word("=01" + as(60))},
		{"\x01" + as(61), word("=01"+as(60)) + " " + word("a")},
		{"\x01" + as(123), word("=01"+as(60)) + " " + word(as(63))},
		{"\x01" + as(124), word("=01"+as(60)) + " " + word(as(63)) + " " + word("a")},
		{as(60) + "\x01", word(as(60) + "=01")},
		{as(61) + "\x01", word(as(61)) + " " + word("=01")},
		{as(62) + "\x01", word(as(62)) + " " + word("=01")},
		{as(63) + "\x01", word(as(63)) + " " + word("=01")},
		{as(64) + "\x01", word(as(63)) + " " + word("a=01")},
		{as(57) + "ä", word(as(57) + "=C3=A4")},
		{as(58) + "ä", word(as(58)) + " " + word("=C3=A4")},
		{as(62) + "ä", word(as(62)) + " " + word("=C3=A4")},
		{as(54) + "€", word(as(54) + "=E2=82=AC")},
		{as(55) + "€", word(as(55)) + " " + word("=E2=82=AC")},
		{as(60) + "€a", word(as(60)) + " " + word("=E2=82=ACa")},
		{as(51) + "😀", word(as(51) + "=F0=9F=98=80")},
		{as(52) + "😀", word(as(52)) + " " + word("=F0=9F=98=80")},
		{as(54) + "\xff", word(as(54) + "=EF=BF=BD")},
		{as(55) + "\xff", word(as(55)) + " " + word("=EF=BF=BD")},
		{strings.Repeat("ä", 10), word(strings.Repeat("=C3=A4", 10))},
		{strings.Repeat("ä", 11), word(strings.Repeat("=C3=A4", 10)) + " " + word("=C3=A4")},
		{strings.Repeat("€", 8), word(strings.Repeat("=E2=82=AC", 7)) + " " + word("=E2=82=AC")},
		{strings.Repeat("😀", 6), word(strings.Repeat("=F0=9F=98=80", 5)) + " " + word("=F0=9F=98=80")},
		{strings.Repeat("\n", 22), word(strings.Repeat("=0A", 21)) + " " + word("=0A")},
		{"\n" + strings.Repeat(" ", 61), word("=0A"+strings.Repeat("_", 60)) + " " + word("_")},
		{strings.Repeat("ä", 10) + "aaab", word(strings.Repeat("=C3=A4", 10)+"aaa") + " " + word("b")},
	} {
		checkEncode(t, c.s, c.want)
	}
	for _, char := range []string{"a", " ", "\x01", "=", "ä", "€", "😀", "\xff"} {
		for n := range 140 {
			for _, s := range []string{"\n" + as(n) + char, "\n" + as(n) + char + "b", "\n" + as(n) + char + char + as(70)} {
				checkEncode(t, s, encodedOf(s))
			}
		}
		long := "é" + strings.Repeat(char, 3000)
		checkEncode(t, long, encodedOf(long))
	}
}

// P13.2: words stand between single spaces, none is longer than 75 bytes, each is as long as it can be, and each holds whole code points.
func TestEncodeWords(t *testing.T) {
	for _, s := range manyTexts() {
		if staysPlain(s) {
			continue
		}
		list := strings.Split(words.Encode(s), " ")
		text := ""
		for i, word := range list {
			parts := aWord.FindStringSubmatch(word)
			if parts == nil || parts[0] != word || parts[1] != "utf-8" || parts[2] != "Q" || parts[3] == "" || len(word) > 75 {
				t.Fatalf("word %d of %.90q is %q", i, s, word)
			}
			run := codec.UnQ(parts[3])
			if !charset.Valid(run) || codec.Q(run) != parts[3] {
				t.Errorf("word %d of %.90q is %q: a code point is split, or not encoded as it should be", i, s, word)
			}
			if i < len(list)-1 {
				next := []rune(words.Decode(list[i+1]))
				if length := len(word) + len(codec.Q(string(next[:1]))); length <= 75 {
					t.Errorf("word %d of %.90q is %q: %q could be in it too", i, s, word, next[0])
				}
			}
			text += run
		}
		if text != charset.Repair(s) {
			t.Errorf("the words of %.90q say %.90q", s, text)
		}
	}
}

// P13.2, P13.3: Encode against a reference, and Decode as its inverse, for strings of all kinds.
func TestEncodeAgainstReference(t *testing.T) {
	for _, s := range manyTexts() {
		checkEncode(t, s, encodedOf(s))
	}
	for _, s := range samples.Texts() {
		if got := words.Decode(words.Encode(s)); got != charset.Repair(s) {
			t.Errorf("Decode(Encode(%.40q)) = %.40q", s, got)
		}
	}
	for n := range 0x110000 {
		if samples.IsRune(n) && (n < 3000 || n%31 == 0) {
			s := samples.Encoding(n)
			checkEncode(t, s+s, encodedOf(s+s))
		}
	}
}

// P13.3: valid UTF-8 without an opening is unchanged by Decode, and what is encoded twice is decoded twice.
func TestEncodeTwice(t *testing.T) {
	for _, s := range manyTexts() {
		repaired := charset.Repair(s)
		if !strings.Contains(repaired, "=?") {
			checkDecode(t, repaired, repaired)
		}
		once := words.Encode(s)
		checkDecode(t, words.Decode(words.Encode(once)), repaired)
	}
}

// P13.2, P13.3: encoded words stand in a header field, are folded there between words, and are read back.
func TestEncodeInHeaderField(t *testing.T) {
	for _, s := range manyTexts() {
		encoded := words.Encode(s)
		for _, name := range []string{"A", "Subject"} {
			field := header.Put(name, encoded)
			fields, _ := header.Parse("B: c\r\n" + field + "D: e\r\n\r\nbody")
			got, ok := header.Get(fields, name)
			want := charset.Repair(s)
			if staysPlain(s) {
				// The spaces around it are the field's own.
				want = strings.Trim(want, " ")
			}
			if !ok || len(fields) != 3 || words.Decode(got) != want {
				t.Errorf("the field %.200q of %.90q says %.90q, %v", field, s, words.Decode(got), ok)
			}
			if !staysPlain(s) {
				if got != encoded {
					t.Errorf("the field %.200q gives back %.200q", field, got)
				}
				// White space between words is none of the text, be it folded or not.
				checkDecode(t, strings.TrimSuffix(strings.TrimPrefix(field, name+": "), "\r\n"), want)
			}
		}
	}
}

// P13.2, R2: Encode changes and keeps nothing of its argument, nor of another call.
func TestEncodeKeepsNothing(t *testing.T) {
	list := []string{"", "a", "plain text", "=?", "é", "\xff", as(80), as(80) + "ä", "a\n", strings.Repeat("€", 30)}
	for range 3 {
		for i, s := range list {
			want, other := encodedOf(s), list[(i*3+1)%len(list)]
			text, memory := inMemory(s)
			got := words.Encode(text)
			if text != s {
				t.Errorf("Encode made %q of its argument %q", text, s)
			}
			clear(memory)
			checkEncode(t, other, encodedOf(other))
			if got != want {
				t.Errorf("Encode(%q) became %q, want %q", s, got, want)
			}
		}
	}
}

// P1: Encode ends soon for long strings.
func TestEncodeLongStrings(t *testing.T) {
	const many = 100000
	for _, unit := range []string{"a", " ", "=?", "ä", "\xff", "\n"} {
		long := strings.Repeat(unit, many)
		encoded := words.Encode(long)
		checkDecode(t, encoded, charset.Repair(long))
	}
}
