package words_test

import (
	"strings"
	"testing"

	"pouch/samples"
	"pouch/words"
)

// P13.1: words that lack one of their parts.
func TestDecodeIncompleteWords(t *testing.T) {
	for _, s := range []string{
		"=?", "=?utf-8", "=?utf-8?", "=?utf-8?q", "=?utf-8?q?", "=?utf-8?q?a", "=?utf-8?q?a?",
		"utf-8?q?a?=", "?utf-8?q?a?=", "=utf-8?q?a?=",
		"=?utf-8q?a?=", "=?utf-8?qa?=", "=?utf-8?q?a=", "=?utf-8?a?=", "=?utf-8?=", "=?q?a?=", "=?=", "=??=", "=???=", "=????=",
		"=??q?a?=", "=?utf-8??a?=", "=?utf-8?q?a?", "=?utf-8?q?a?x", "=?utf-8?q?a? =", "=? utf-8?q?a?=", "=?utf-8 ?q?a?=", "=?utf-8? q?a?=", "=?utf-8?q ?a?=", "=?utf-8?q? a?=", "=?utf-8?q?a ?=", "=\r\n?utf-8?q?a?=",
		"?=utf-8?q?a=?", "=!utf-8!q!a!=", "=\uff1futf-8?q?a?=",
	} {
		checkNoWord(t, s)
	}
	const word = "=?utf-8?Q?a=C3=A4?="
	for n := range len(word) {
		head, tail := word[:n], word[n:]
		checkDecode(t, head, head)
		checkDecode(t, head+" "+word, head+" aä")
		checkDecode(t, word+" "+head, "aä "+head)
		checkReference(t, head+word)
		checkReference(t, word+head)
		checkReference(t, head+word+tail)
		if n > 0 {
			checkNoWord(t, head)
			checkNoWord(t, tail)
			checkDecode(t, tail+word, tail+"aä")
			checkDecode(t, head+" "+tail, head+" "+tail)
			checkReference(t, word[:n-1]+tail)
			checkReference(t, head+word[n-1:])
		}
	}
}

// P13.1: from left to right: an unfinished word ahead of a whole one, and bytes of which only one word can be made.
func TestDecodeUnfinishedWords(t *testing.T) {
	for s, want := range map[string]string{
		"=?=?utf-8?q?a?=":                      "=?a",
		"=?=?=?utf-8?q?a?=":                    "=?=?a",
		"==?utf-8?q?a?=":                       "=a",
		"===?utf-8?q?a?=":                      "==a",
		"?=?utf-8?q?a?=":                       "?a",
		"=??=?utf-8?q?a?=":                     "=??a",
		"=?x=?utf-8?q?a?=":                     "=?xa",
		"=?x?=?utf-8?q?a?=":                    "=?x?a",
		"=?x?q=?utf-8?q?a?=":                   "=?x?qa",
		"=?x?q?=?utf-8?q?a?=":                  "=?x?q?a",
		"=?x?q?y=?utf-8?q?a?=":                 "=?x?q?ya",
		"=?x?q?y?=?utf-8?q?a?=":                "y?utf-8?q?a?=",
		"=?x?q?y?==?utf-8?q?a?=":               "ya",
		"=?x?q?y=?=?utf-8?q?a?=":               "y=?utf-8?q?a?=",
		"=?x?q?y??=?utf-8?q?a?=":               "=?x?q?y??a",
		"=?x?x?y?=?utf-8?q?a?=":                "=?x?x?y?a",
		"=?x?q?y z?=?utf-8?q?a?=":              "=?x?q?y z?a",
		"=?x?q?y =?utf-8?q?a?=":                "=?x?q?y a",
		"=?utf-8?q?=?utf-8?q?a?=":              "=?utf-8?q?a",
		"=?q?q?q?=q?q?=":                       "qq?q?=",
		"=?q?q??=?q?q?q?=":                     "?q?q?q?=",
		"=?q?q?q?q?q?q?=":                      "=?q?q?q?q?q?q?=",
		"=?b?b?b?b?=?b?b?YQ?=":                 "=?b?b?b?b?a",
		"=?utf-8?q?a?= =?utf-8?q?b":            "a =?utf-8?q?b",
		"=?utf-8?q?a?= =?utf-8?q?b c?=":        "a =?utf-8?q?b c?=",
		"=?utf-8?q?a =?utf-8?q?b?= =?":         "=?utf-8?q?a b =?",
		"=?utf-8?q?a =?utf-8?q?b?= =?x?q?c?=":  "=?utf-8?q?a bc",
		"=?utf-8?q?a?= =?utf-8 =?utf-8?q?b?=":  "a =?utf-8 b",
		"=?utf-8?q?a?=?=":                      "a?=",
		"=?utf-8?q?a?==":                       "a=",
		"=?utf-8?q?a?= = =?utf-8?q?b?=":        "a = b",
		"=?utf-8?q?a?= ==?utf-8?q?b?=":         "a =b",
		"=?utf-8?q?a?= =?=?utf-8?q?b?=":        "a =?b",
		"=?utf-8?q?a?= ?= =?utf-8?q?b?=":       "a ?= b",
		"=?utf-8?q?a?=?utf-8?q?b?=":            "a?utf-8?q?b?=",
		"=?utf-8?q?a?= =?utf-8?x?c?=":          "a =?utf-8?x?c?=",
		"=?utf-8?q?a?= =?q?b?= =?utf-8?q?c?=":  "a =?q?b?= c",
		"=?utf-8?q?a?= =?x?b?c=?utf-8?q?d?=":   "a =?x?b?cd",
		"=?utf-8?q?a?==?utf-8?q?b?==?x?q?c?==": "abc=",
	} {
		checkDecode(t, s, want)
	}
}

// P13.1: the white space between two words goes, and nothing else.
func TestDecodeGaps(t *testing.T) {
	const a, b, c = "=?utf-8?q?a?=", "=?latin1?B?Yg==?=", "=?x?b?Yw?="
	for _, gap := range samples.Words("\t\n\r ", 4) {
		checkDecode(t, a+gap+b, "ab")
		checkDecode(t, a+gap+b+gap+c, "abc")
		checkDecode(t, b+gap+a+" "+a, "baa")
		checkDecode(t, gap+a+gap+b+gap, gap+"ab"+gap)
		checkDecode(t, a+gap+"x"+gap+b, "a"+gap+"x"+gap+"b")
		checkDecode(t, "x"+gap+a+gap+"y", "x"+gap+"a"+gap+"y")
		checkDecode(t, "x"+gap+a+gap+b+gap+"y"+gap+c+gap+"z", "x"+gap+"ab"+gap+"y"+gap+"c"+gap+"z")
		checkDecode(t, gap+a, gap+"a")
		checkDecode(t, a+gap, "a"+gap)
		checkDecode(t, "x"+gap+"y", "x"+gap+"y")
		checkDecode(t, a+gap+"=?utf-8?q? ?="+gap+b, "a"+gap+"=?utf-8?q? ?="+gap+"b")
	}
	checkDecode(t, a+strings.Repeat(" \r\n\t", 1000)+b, "ab")
	checkDecode(t, a+strings.Repeat(" ", 1000)+"x"+b, "a"+strings.Repeat(" ", 1000)+"xb")
	for _, gap := range []string{"\v", "\f", "\x00", "\x1c", "\x1f", "\x7f", "\b", "\u0085", "\u00a0", "\u2003", "\u2028", "\u3000", "\ufeff", "x", ".", ",", "_", "=20", "(c)", "\"\"", "é"} {
		checkDecode(t, a+gap+b, "a"+gap+"b")
		checkDecode(t, a+" "+gap+b, "a "+gap+"b")
		checkDecode(t, a+gap+" "+b, "a"+gap+" b")
		checkDecode(t, a+" \t"+gap+"\r\n "+b+" "+c, "a \t"+gap+"\r\n bc")
	}
	all := samples.AllBytes()
	for i := range len(all) {
		for _, gap := range []string{all[i : i+1], " " + all[i:i+1], all[i:i+1] + " ", " " + all[i:i+1] + " "} {
			checkReference(t, a+gap+b)
			checkReference(t, a+gap+b+gap+c+gap)
			checkReference(t, gap+a+gap+gap+b)
		}
	}
}

// P13.1: the meaning of a word is decoded by itself, and is text, whatever it looks like.
func TestDecodeMeanings(t *testing.T) {
	for s, want := range map[string]string{
		// The bytes of one code point in two words.
		"=?utf-8?q?=C3?= =?utf-8?q?=A4?=":           fffd + fffd,
		"=?utf-8?q?=C3?==?utf-8?q?=A4?=":            fffd + fffd,
		"=?utf-8?b?4oI=?= =?utf-8?b?rA==?=":         fffd + fffd + fffd,
		"=?utf-8?q?=C3?=\xa4":                       fffd + fffd,
		"=?utf-8?q?=C3=A4?= =?latin1?q?=E4?=":       "ää",
		"=?latin1?q?=C3?= =?latin1?q?=A4?=":         "Ã¤",
		"=?latin1?q?=C3?= =?utf-8?q?=A4?= =?x?q?y?": "Ã" + fffd + " =?x?q?y?",
		// White space that a word means, and words that mean nothing.
		"=?utf-8?q?_?=":                                "\x20",
		"=?utf-8?q?_?= =?utf-8?q?_?=":                  "  ",
		"=?utf-8?q?a?= =?utf-8?q?_?= =?utf-8?q?b?=":    "a b",
		"=?utf-8?q?a_?= =?utf-8?q?=09b?=":              "a \tb",
		"=?utf-8?q?a?= =?utf-8?b?IA==?=\t=?x?q?b?=":    "a b",
		"=?utf-8?q?a?= =?utf-8?q??= =?utf-8?q?b?=":     "ab",
		"=?utf-8?q??= =?utf-8?q??=":                    "",
		"x =?utf-8?q??= y":                             "x  y",
		"x =?utf-8?q??= =?utf-8?b??= y":                "x  y",
		" =?utf-8?q??= ":                               "  ",
		"=?utf-8?q?a?= x =?utf-8?q??= =?utf-8?q?b?=":   "a x b",
		"=?utf-8?q?a?= =?utf-8?q?=20?= x =?x?q?b?= \t": "a  x b \t",
		// The text of a word, or a part of one.
		"=?utf-8?q?=3D=3Futf-8=3Fq=3Fa=3F=3D?=":                                             "=?utf-8?q?a?=",
		"=?utf-8?b?PT91dGYtOD9xP2E/PQ?=":                                                    "=?utf-8?q?a?=",
		"=?utf-8?q?=3D=3Futf-8=3Fq=3Fa=3F=3D?= =?utf-8?q?=3D=3Futf-8=3Fq=3Fb=3F=3D?=":       "=?utf-8?q?a?==?utf-8?q?b?=",
		"=?utf-8?q?=3D=3Futf-8=3Fq=3Fa=3F=3D_?= =?utf-8?q?=3D=3Futf-8=3Fq=3Fb=3F=3D?=":      "=?utf-8?q?a?= =?utf-8?q?b?=",
		"=?utf-8?q?=3D?=?utf-8?q?a?=":                                                       "=?utf-8?q?a?=",
		"=?utf-8?q?=3D=3F?= =?utf-8?q?utf-8=3Fq=3Fa=3F=3D?=":                                "=?utf-8?q?a?=",
		"=?utf-8?q?=3D=3Futf-8=3Fq=3F?=a?=":                                                 "=?utf-8?q?a?=",
		"=?utf-8?q?=3D41?=":                                                                 "=41",
		"=?utf-8?q?=5F?=":                                                                   "_",
		"=?utf-8?b?PTQx?=":                                                                  "=41",
		"=?utf-8?q?=3D=3Fx=3Fq=3F=3D33=3F=3D?= =?x?q?c?= =?utf-8?q?=3D=3Fx=3Fb=3F=3F=3D?=.": "=?x?q?=33?=c=?x?b??=.",
	} {
		checkDecode(t, s, want)
	}
}

// P13.1: strings of all kinds against a reference.
func TestDecodeAgainstReference(t *testing.T) {
	list := samples.Words(samples.AllBytes(), 2)
	list = append(list, samples.Words("=?q ", 9)...)
	list = append(list, sequences([]string{"=?", "?", "=", "utf-8", "q", "B", "=C3=A4", " ", "\r\n", "=?x?q?=80?=", "=?utf8?b?w6Q?="}, 5)...)
	list = append(list, sequences([]string{"=?utf-8?q?", "=?utf-8?b?", "?=", "a", " ", "\t", "=", "?", "\xc3", "\xa4"}, 5)...)
	for seed := range uint64(3000) {
		list = append(list, drawn("=?=?=?qQbBx_ \t\r\n\xc3\xa4", 200, seed), drawn("=?=?=?=?=?=?q", 300, seed), drawn("?=qb= ", 300, seed))
	}
	for seed := range uint64(500) {
		list = append(list, samples.Noise(300, seed), strings.NewReplacer("\x80", "=?utf-8?q?", "\x81", "?=", "\x82", "=?x?B?", "\x83", "?= =?latin1?q?", "\x84", "?=\r\n").Replace(samples.Noise(2000, seed)))
	}
	for _, s := range append(list, samples.AllBytes()) {
		checkReference(t, s)
	}
}

// P13.1, R2: Decode changes and keeps nothing of its argument, nor of another call.
func TestDecodeKeepsNothing(t *testing.T) {
	list := []string{"", "a", "a b", "é", "\xff", "=?utf-8?q?a?=", "=?utf-8?q?abc?= x", "x =?us-ascii?b?YWJj?= =?utf-8?Q?_=C3=A4?=", "=?utf-8?q?a", "=?utf-8?q?a?= ", " =?utf-8?q?b?=", "=?utf-8?q??=", "=?x?q?=80?="}
	for range 3 {
		for i, s := range list {
			want, other := decoded(s), list[(i*5+3)%len(list)]
			text, memory := inMemory(s)
			got := words.Decode(text)
			if text != s {
				t.Errorf("Decode made %q of its argument %q", text, s)
			}
			clear(memory)
			checkReference(t, other)
			if got != want {
				t.Errorf("Decode(%q) became %q, want %q", s, got, want)
			}
		}
	}
}

// P1: Decode ends soon for long strings, however many words begin in them.
func TestDecodeLongStrings(t *testing.T) {
	const many = 100000
	for _, c := range []struct{ unit, want string }{
		{"=", "="},
		{"?", "?"},
		{"=?", "=?"},
		{"==?", "==?"},
		{"=?a", "=?a"},
		{"=?a?q", "=?a?q"},
		{"=?a?q?b ", "=?a?q?b "},
		{"=?a?q?=80?=", "€"},
		{"=?a?q??= ", ""},
		{" ", " "},
		{"a", "a"},
		{"é", "é"},
		{"\xff", fffd},
	} {
		// What is behind the last word stays.
		want := strings.Repeat(c.want, many)
		if strings.HasSuffix(c.unit, "?= ") {
			want += " "
		}
		checkDecode(t, strings.Repeat(c.unit, many), want)
	}
	long := strings.Repeat("a", many)
	checkDecode(t, "=?"+long+"?q?"+long+"?=", long)
	checkDecode(t, "=?utf-8?q?"+long, "=?utf-8?q?"+long)
	checkDecode(t, "=?utf-8?q?a?="+strings.Repeat(" ", many)+"=?utf-8?q?b?=", "ab")
	checkDecode(t, strings.Repeat("=?utf-8?q?a?="+strings.Repeat(" ", 300), 300)+"x", strings.Repeat("a", 300)+strings.Repeat(" ", 300)+"x")
}
