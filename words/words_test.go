package words_test

import (
	"regexp"
	"strings"
	"testing"
	"unsafe"

	"pouch/charset"
	"pouch/codec"
	"pouch/samples"
	"pouch/words"
)

// What the chapter defines, for strings of which each byte is written as a rune of its own.
var (
	aWord      = regexp.MustCompile(`=\?([!-<>@-~]+)\?([BbQq])\?([!->@-~]*)\?=`)
	onlySpaces = regexp.MustCompile(`\A[\t\n\r ]*\z`)
)

// fffd is the encoding of 65533.
const fffd = "\xef\xbf\xbd"

// wide is s with a rune for each byte, and narrow is that s again.
func wide(s string) string {
	runes := make([]rune, len(s))
	for i := range len(s) {
		runes[i] = rune(s[i])
	}
	return string(runes)
}

func narrow(s string) string {
	var text []byte
	for _, r := range s {
		text = append(text, byte(r))
	}
	return string(text)
}

// decoded is what Decode returns, as the chapter defines it.
func decoded(s string) string {
	all := wide(s)
	text, done := "", 0
	for i, at := range aWord.FindAllStringSubmatchIndex(all, -1) {
		if gap := all[done:at[0]]; i == 0 || !onlySpaces.MatchString(gap) {
			text += narrow(gap)
		}
		bytes := narrow(all[at[6]:at[7]])
		if encoding := all[at[4]:at[5]]; encoding == "B" || encoding == "b" {
			bytes = codec.UnB64(bytes)
		} else {
			bytes = codec.UnQ(bytes)
		}
		meaning, _ := charset.Decode(narrow(all[at[2]:at[3]]), bytes)
		text += meaning
		done = at[1]
	}
	return charset.Repair(text + narrow(all[done:]))
}

// checkDecode holds what Decode returns for s against what is wanted.
func checkDecode(t *testing.T, s, want string) {
	t.Helper()
	if got := words.Decode(s); got != want {
		t.Errorf("Decode(%.90q) = %.90q, want %.90q", s, got, want)
	}
}

// checkReference holds what Decode returns for s against the reference.
func checkReference(t *testing.T, s string) {
	t.Helper()
	checkDecode(t, s, decoded(s))
}

// checkNoWord holds that s holds no encoded word, and hides none beside it.
func checkNoWord(t *testing.T, s string) {
	t.Helper()
	repaired := charset.Repair(s)
	checkDecode(t, s, repaired)
	checkDecode(t, "x "+s+" y", "x "+repaired+" y")
	checkDecode(t, "=?utf-8?q?a?= "+s+" =?utf-8?q?b?=", "a "+repaired+" b")
	checkDecode(t, s+" "+s, repaired+" "+repaired)
}

// drawn is a string of bytes of the alphabet without a pattern.
func drawn(alphabet string, length int, seed uint64) string {
	text := []byte(samples.Noise(length, seed))
	for i, b := range text {
		text[i] = alphabet[int(b)%len(alphabet)]
	}
	return string(text)
}

// sequences lists all strings that at most longest pieces make up.
func sequences(pieces []string, longest int) []string {
	var digits string
	for i := range pieces {
		digits += string(rune('a' + i))
	}
	list := samples.Words(digits, longest)
	for i, order := range list {
		list[i] = ""
		for _, digit := range order {
			list[i] += pieces[digit-'a']
		}
	}
	return list
}

// inMemory is a string that lies in memory which a test may write over.
func inMemory(s string) (string, []byte) {
	memory := append([]byte(s), 0)
	return unsafe.String(&memory[0], len(s)), memory
}

// P13.1, P13.3: strings without an encoded word stay as they are, if they are UTF-8, and are repaired otherwise.
func TestDecodeWithoutWords(t *testing.T) {
	for _, s := range []string{"", " ", "a", "a b", " a  b\t", "\r\n", "\x00\x7f", "=", "?", "==", "??", "?=", "= ?", "=utf-8?q?a?=", "utf-8?q?a?=", "?utf-8?q?a?=", "= ?utf-8?q?a?=", "a=b?c", "_", "=41", "YQ==", "é", "ä b€", "😀\U0010ffff", "\ufffd", "\u00a0\u2028", "=?", "a =? b", "=? =?", "=?=?", "=??=", "=?????=", "=?===?=", strings.Repeat("word ", 1000)} {
		checkDecode(t, s, s)
	}
	for s, want := range map[string]string{
		"\xff":             fffd,
		"a\xffb\xfe":       "a" + fffd + "b" + fffd,
		"\xc3":             fffd,
		"\xc3 \xa4":        fffd + " " + fffd,
		"\xe2\x82":         fffd + fffd,
		"\xed\xa0\x80":     fffd + fffd + fffd,
		"é\xe9":            "é" + fffd,
		"=\xff?utf-8?q?a":  "=" + fffd + "?utf-8?q?a",
		"\xf0\x9f\x98\x80": "😀",
	} {
		checkDecode(t, s, want)
	}
	all := samples.AllBytes()
	checkDecode(t, all, charset.Repair(all))
	for _, s := range samples.Texts() {
		if !strings.Contains(s, "=?") {
			checkDecode(t, s, charset.Repair(s))
		}
	}
}

// P13.1: one encoded word, alone and between other bytes, which are all kept.
func TestDecodeOneWord(t *testing.T) {
	for _, c := range []struct{ word, meaning string }{
		{"=?utf-8?Q?a_=C3=A4?=", "a ä"},
		{"=?us-ascii?b?Yg==?=", "b"},
		{"=?utf-8?q??=", ""},
		{"=?utf-8?b??=", ""},
		{"=?iso-8859-1?Q?=E4=80?=", "ä\u0080"},
		{"=?Windows-1252?B?gA==?=", "€"},
		{"=?x?q?=80?=", "€"},
		{"=?utf-8?q?=ff?=", fffd},
		{"=?us-ascii?q?=E4?=", fffd},
		{"=?utf-8?b?8J+YgA==?=", "😀"},
		{"=?utf-8?q?_?=", " "},
		{"=?utf-8?q?=0D=0A?=", "\r\n"},
		{"=?utf-8?q?=00?=", "\x00"},
	} {
		checkDecode(t, c.word, c.meaning)
		for _, other := range []string{"x", " ", "  ", "\t", "\r\n ", "x ", " x", "é", "€ ", "\x00", "?", "=", "(", ")", "\"", "<a@b>,", "_", "=41", "=C3", strings.Repeat("xy ", 100)} {
			checkDecode(t, other+c.word, other+c.meaning)
			checkDecode(t, c.word+other, c.meaning+other)
			checkDecode(t, other+c.word+other, other+c.meaning+other)
			checkDecode(t, " "+other+c.word+other+" ", " "+other+c.meaning+other+" ")
		}
		for _, bad := range []string{"\xff", "\xc3", "\xa4", "\xe2\x82"} {
			checkDecode(t, bad+c.word, charset.Repair(bad)+c.meaning)
			checkDecode(t, c.word+bad, c.meaning+charset.Repair(bad))
		}
	}
	// The whole is repaired, not what stands on either side of a word.
	checkDecode(t, "\xc3=?utf-8?q??=\xa4", "ä")
	checkDecode(t, "\xe2=?utf-8?q??=\x82=?utf-8?b??=\xac", "€")
	checkDecode(t, "\xc3=?utf-8?q?a?=\xa4", fffd+"a"+fffd)
	checkDecode(t, "\xc3=?latin1?q?=A4?=", fffd+"¤")
}

// P13.1: the letter between the charset name and the text: four are right, and no other byte.
func TestDecodeLetters(t *testing.T) {
	all := samples.AllBytes()
	for i := range len(all) {
		letter := all[i : i+1]
		s := "=?utf-8?" + letter + "?Y_=41?="
		switch letter {
		case "B", "b":
			checkDecode(t, s, "")
			checkDecode(t, "=?utf-8?"+letter+"?YWI?=", "ab")
		case "Q", "q":
			checkDecode(t, s, "Y A")
			checkDecode(t, "=?utf-8?"+letter+"?YWI?=", "YWI")
		default:
			checkNoWord(t, s)
			checkNoWord(t, "=?utf-8?"+letter+"?YWI?=")
		}
		for _, letters := range []string{letter + "q", "q" + letter, letter + "B", "b" + letter} {
			checkReference(t, "=?utf-8?"+letters+"?YWI?=")
			checkReference(t, "=?utf-8?"+letters+"?YWI?==?utf-8?q?c?=")
		}
	}
	for _, letters := range []string{"", "qq", "bb", "QB", "q ", " q", "BbQq", "bQ", "é"} {
		checkNoWord(t, "=?utf-8?"+letters+"?YWI?=")
	}
}

// P13.1: charset names, known and unknown, in any case.
func TestDecodeCharsets(t *testing.T) {
	for _, c := range []struct{ name, want string }{
		{"utf-8", "ä" + fffd},
		{"UTF-8", "ä" + fffd},
		{"Utf8", "ä" + fffd},
		{"us-ascii", fffd + fffd + fffd},
		{"ASCII", fffd + fffd + fffd},
		{"iso-8859-1", "Ã¤\u0080"},
		{"ISO-8859-1", "Ã¤\u0080"},
		{"Latin1", "Ã¤\u0080"},
		{"windows-1252", "Ã¤€"},
		{"CP1252", "Ã¤€"},
		{"x", "Ã¤€"},
		{"utf-8*de", "Ã¤€"},
		{"utf-9", "Ã¤€"},
		{"iso-8859-15", "Ã¤€"},
		{"'\"()<>@,;:\\/[].!~", "Ã¤€"},
		{strings.Repeat("utf-8", 1000), "Ã¤€"},
	} {
		checkDecode(t, "=?"+c.name+"?q?=c3=a4=80?=", c.want)
		checkDecode(t, "x =?"+c.name+"?B?w6SA?= y", "x "+c.want+" y")
	}
	for _, name := range []string{"", "=", "a=b", "=a", "a=", "==", " ", "a b", "utf-8 ", " utf-8", "\t", "é", "a\nb", strings.Repeat("a", 1000) + "="} {
		checkNoWord(t, "=?"+name+"?q?a?=")
		checkNoWord(t, "=?"+name+"?B?YQ==?=")
	}
}

// P13.1: each byte in a charset name, alone and with others: 33 to 126 but for two are right.
func TestDecodeBytesInCharsets(t *testing.T) {
	all := samples.AllBytes()
	for i := range len(all) {
		b := all[i : i+1]
		for _, name := range []string{b, "a" + b, b + "a", "utf" + b + "8", b + b} {
			s := "=?" + name + "?q?=80?="
			checkReference(t, s)
			switch {
			case i < 33 || i > 126 || b == "=":
				checkNoWord(t, s)
			case b == "?":
				checkDecode(t, s, s)
			case name != "utf-8":
				checkDecode(t, s, "€")
			}
		}
	}
}

// P13.1: each byte in an encoded text: 33 to 126 but for the question mark are right.
func TestDecodeBytesInTexts(t *testing.T) {
	all := samples.AllBytes()
	for i := range len(all) {
		b := all[i : i+1]
		for _, text := range []string{b, "a" + b, b + "a", "YW" + b + "Jj", "=4" + b, "=" + b + "1", b + "41", b + b} {
			for _, letter := range []string{"Q", "q", "B", "b"} {
				s := "=?utf-8?" + letter + "?" + text + "?="
				checkReference(t, s)
				if i < 33 || i > 126 {
					checkNoWord(t, s)
				}
			}
		}
		if i >= 33 && i <= 126 && !strings.Contains("=?_", b) {
			checkDecode(t, "=?utf-8?q?x"+b+"y?=", "x"+b+"y")
		}
	}
	// The byte behind a question mark within the text tells that the word is none, or that it ends there.
	checkNoWord(t, "=?utf-8?q?a?b?=")
	checkNoWord(t, "=?utf-8?q?a??=")
	checkNoWord(t, "=?utf-8?q????=")
	checkDecode(t, "=?utf-8?q?a?=b?=", "ab?=")
	checkDecode(t, "=?utf-8?q??=?=", "?=")
}

// P13.1: texts in base64: with padding and without it, with bytes outside the alphabet, and with an equals sign at the end.
func TestDecodeBase64(t *testing.T) {
	for text, want := range map[string]string{
		"":             "",
		"Y":            "",
		"YQ":           "a",
		"YQ=":          "a",
		"YQ==":         "a",
		"YQ===":        "a",
		"YWI":          "ab",
		"YWI=":         "ab",
		"YWJj":         "abc",
		"YWJj=":        "abc",
		"Y-W,J_j":      "abc",
		"!YWJj~":       "abc",
		"YW=Jj":        "a",
		"=YWJj":        "",
		"====":         "",
		"w6Q=":         "ä",
		"w6Q":          "ä",
		"ww==":         fffd,
		"//79":         fffd + fffd + fffd,
		"PT91dGY":      "=?utf",
		"IA0KCQ":       " \r\n\t",
		"8J+YgPCfmIA=": "😀😀",
	} {
		for _, letter := range []string{"B", "b"} {
			checkDecode(t, "=?utf-8?"+letter+"?"+text+"?=", want)
			checkDecode(t, "x =?utf-8?"+letter+"?"+text+"?= =?utf-8?q?y?= z", "x "+want+"y z")
		}
	}
	checkNoWord(t, "=?utf-8?b?YW Jj?=")
	checkNoWord(t, "=?utf-8?b?YW\r\nJj?=")
	long := samples.Noise(5000, 1)
	checkDecode(t, "=?latin1?b?"+strings.ReplaceAll(codec.B64(long), "\r\n", "")+"?=", wide(long))
}

// P13.1: texts in Q: escape sequences in either case, cut off and wrong ones, underscores, and equals signs at the end.
func TestDecodeQ(t *testing.T) {
	for text, want := range map[string]string{
		"":             "",
		"a":            "a",
		"_":            " ",
		"__a_":         "  a ",
		"=41":          "A",
		"=5F=20_":      "_  ",
		"=c3=A4":       "ä",
		"=C3=a4":       "ä",
		"=3d=3D":       "==",
		"=3F":          "?",
		"=":            "=",
		"==":           "==",
		"a=":           "a=",
		"a=4":          "a=4",
		"=4g":          "=4g",
		"=g4":          "=g4",
		"==41":         "=A",
		"=4=41":        "=4A",
		"=-1":          "=-1",
		"=+1":          "=+1",
		"=_1":          "= 1",
		"=C3":          fffd,
		"=C3x=A4":      fffd + "x" + fffd,
		"=0d=0A":       "\r\n",
		"!*+-/":        "!*+-/",
		"\"(a,b)\"":    "\"(a,b)\"",
		"~!@#$%^&":     "~!@#$%^&",
		"=F0=9F=98=80": "😀",
	} {
		for _, letter := range []string{"Q", "q"} {
			checkDecode(t, "=?utf-8?"+letter+"?"+text+"?=", want)
			checkDecode(t, "x =?utf-8?"+letter+"?"+text+"?= =?utf-8?b?eQ?= z", "x "+want+"y z")
		}
	}
	checkNoWord(t, "=?utf-8?q?a b?=")
	checkNoWord(t, "=?utf-8?q? ?=")
	checkNoWord(t, "=?utf-8?q?ä?=")
	checkNoWord(t, "=?utf-8?q?a\x7f?=")
	long := samples.Noise(5000, 2)
	checkDecode(t, "=?latin1?q?"+codec.Q(long)+"?=", wide(long))
}
