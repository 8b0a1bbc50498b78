package codec_test

import (
	"io"
	"mime/quotedprintable"
	"regexp"
	"strings"
	"testing"

	"pouch/codec"
	"pouch/samples"
)

// sequenceOf is the escape sequence of a byte.
func sequenceOf(b byte) string {
	const digits = "0123456789ABCDEF"
	return "=" + digits[b/16:b/16+1] + digits[b%16:b%16+1]
}

// quotedOf is s in quoted-printable, as the chapter defines it.
func quotedOf(s string) string {
	var text strings.Builder
	column := 0
	for i := 0; i < len(s); i++ {
		if strings.HasPrefix(s[i:], "\r\n") {
			text.WriteString("\r\n")
			column = 0
			i++
			continue
		}
		last := i+1 == len(s) || strings.HasPrefix(s[i+1:], "\r\n")
		unit := sequenceOf(s[i])
		if b := s[i]; b >= 33 && b <= 126 && b != 61 || (b == 9 || b == 32) && !last {
			unit = s[i : i+1]
		}
		if column+len(unit) > 75 {
			text.WriteString("=\r\n")
			column = 0
		}
		text.WriteString(unit)
		column += len(unit)
	}
	return text.String()
}

var (
	anyLine  = regexp.MustCompile(`(?s)[^\n]*\n|[^\n]+`)
	lineEnd  = regexp.MustCompile(`(=?)[ \t]*(\r?\n|)\z`)
	sequence = regexp.MustCompile(`=[0-9A-Fa-f]{2}`)
)

// byteOf is the byte of an escape sequence.
func byteOf(sequence string) string {
	n := 0
	for _, digit := range strings.ToUpper(sequence[1:]) {
		n = n*16 + strings.IndexRune("0123456789ABCDEF", digit)
	}
	return string([]byte{byte(n)})
}

// fromQuoted decodes s as the chapter defines it, line by line.
func fromQuoted(s string) string {
	var text strings.Builder
	for _, line := range anyLine.FindAllString(s, -1) {
		at := lineEnd.FindStringSubmatchIndex(line)
		terminator := line[at[4]:at[5]]
		if at[2] < at[3] {
			terminator = ""
		}
		text.WriteString(sequence.ReplaceAllStringFunc(line[:at[2]], byteOf) + terminator)
	}
	return text.String()
}

// P6.2: what is copied, what becomes an escape sequence, and what ends a line.
func TestQpOfKnownStrings(t *testing.T) {
	for _, c := range []struct{ s, want string }{
		{"", ""},
		{"a =", "a =3D"},
		{"pouch", "pouch"},
		{"!<>~", "!<>~"},
		{"=", "=3D"},
		{"==", "=3D=3D"},
		{"=3D", "=3D3D"},
		{"\x00\x1f\x7f\x80\xff", "=00=1F=7F=80=FF"},
		{"\x0b\x0c\xab\xcd\xef", "=0B=0C=AB=CD=EF"},
		{"ä€", "=C3=A4=E2=82=AC"},
		// Blanks in the middle and at the end of a line and of the string.
		{" ", "=20"},
		{"\t", "=09"},
		{"  ", " =20"},
		{"\t\t\t", "\t\t=09"},
		{"a b\tc", "a b\tc"},
		{" a", " a"},
		{"\ta", "\ta"},
		{"a ", "a=20"},
		{"a\t", "a=09"},
		{"a \t", "a =09"},
		{"a\t ", "a\t=20"},
		{"a \r\nb", "a=20\r\nb"},
		{"a\t\r\n", "a=09\r\n"},
		{"a  \r\n b", "a =20\r\n b"},
		{" \r\n \r\n ", "=20\r\n=20\r\n=20"},
		{"a \n", "a =0A"},
		{"a \r", "a =0D"},
		{"a \r\r\n", "a =0D\r\n"},
		{"a \x00", "a =00"},
		{"a =\r\nb", "a =3D\r\nb"},
		// Line ends.
		{"\r\n", "\r\n"},
		{"\r\na", "\r\na"},
		{"a\r\n", "a\r\n"},
		{"a\r\nb", "a\r\nb"},
		{"\r\n\r\n", "\r\n\r\n"},
		{"a\r\n\r\nb", "a\r\n\r\nb"},
		{"\n", "=0A"},
		{"a\nb", "a=0Ab"},
		{"\r", "=0D"},
		{"a\rb", "a=0Db"},
		{"\r\r", "=0D=0D"},
		{"\r\r\n", "=0D\r\n"},
		{"a\r\r\nb", "a=0D\r\nb"},
		{"\r\n\r", "\r\n=0D"},
		{"\r\n\n", "\r\n=0A"},
		{"\n\r", "=0A=0D"},
		{"\n\r\n", "=0A\r\n"},
	} {
		if got := codec.Qp(c.s); got != c.want {
			t.Errorf("Qp(%q) = %q, want %q", c.s, got, c.want)
		}
	}
}

// P6.2: every byte in the middle of a line, at the end of one and at the end of the string.
func TestQpOfEveryByte(t *testing.T) {
	all := samples.AllBytes()
	for b := range len(all) {
		char := all[b : b+1]
		middle, last := char, char
		if b < 32 && b != 9 || b == 61 || b > 126 {
			middle = sequenceOf(byte(b))
		}
		if b <= 32 || b == 61 || b > 126 {
			last = sequenceOf(byte(b))
		}
		for _, c := range [][2]string{
			{"x" + char + "y", "x" + middle + "y"},
			{char + "y", middle + "y"},
			{"x" + char + "\r\ny", "x" + last + "\r\ny"},
			{"x" + char, "x" + last},
			{char, last},
		} {
			if got := codec.Qp(c[0]); got != c[1] {
				t.Errorf("Qp(%q) = %q, want %q", c[0], got, c[1])
			}
		}
	}
}

// P6.2: a soft line break comes where a line would have more than 75 bytes, and nowhere else.
func TestQpBreaksLongLines(t *testing.T) {
	x := func(n int) string { return strings.Repeat("x", n) }
	for _, c := range []struct{ s, want string }{
		// A copied byte.
		{x(74), x(74)},
		{x(75), x(75)},
		{x(76), x(75) + "=\r\nx"},
		{x(77), x(75) + "=\r\nxx"},
		{x(150), x(75) + "=\r\n" + x(75)},
		{x(151), x(75) + "=\r\n" + x(75) + "=\r\nx"},
		{x(74) + " y", x(74) + " =\r\ny"},
		{x(75) + " y", x(75) + "=\r\n y"},
		// An escape sequence at each of the last places.
		{x(71) + "=", x(71) + "=3D"},
		{x(72) + "=", x(72) + "=3D"},
		{x(73) + "=", x(73) + "=\r\n=3D"},
		{x(74) + "=", x(74) + "=\r\n=3D"},
		{x(75) + "=", x(75) + "=\r\n=3D"},
		{x(76) + "=", x(75) + "=\r\nx=3D"},
		{x(71) + "=y", x(71) + "=3Dy"},
		{x(72) + "=y", x(72) + "=3D=\r\ny"},
		{x(73) + "=y", x(73) + "=\r\n=3Dy"},
		{strings.Repeat("\xff", 25), strings.Repeat("=FF", 25)},
		{strings.Repeat("\xff", 26), strings.Repeat("=FF", 25) + "=\r\n=FF"},
		{"x" + strings.Repeat("\xff", 25), "x" + strings.Repeat("=FF", 24) + "=\r\n=FF"},
		// A blank as the last byte of a line takes three places.
		{x(72) + " ", x(72) + "=20"},
		{x(73) + " ", x(73) + "=\r\n=20"},
		{x(74) + "\t\r\ny", x(74) + "=\r\n=09\r\ny"},
		{x(74) + "  ", x(74) + " =\r\n=20"},
		// The terminator takes no place, and each line is counted from its start.
		{x(75) + "\r\n", x(75) + "\r\n"},
		{x(75) + "\r\ny", x(75) + "\r\ny"},
		{x(76) + "\r\n" + x(75) + "\r\n" + x(76), x(75) + "=\r\nx\r\n" + x(75) + "\r\n" + x(75) + "=\r\nx"},
		{x(74) + "\n" + x(73), x(74) + "=\r\n=0A" + x(72) + "=\r\nx"},
	} {
		if got := codec.Qp(c.s); got != c.want {
			t.Errorf("Qp(%q) = %q, want %q", c.s, got, c.want)
		}
	}
}

// P6.2: strings of all kinds are encoded as the chapter defines it.
func TestQpOfAnyStrings(t *testing.T) {
	list := append(texts(), samples.Words("a \t\r\n=\xff", 5)...)
	for _, tail := range samples.Words("a \r\n=", 4) {
		for length := 68; length < 78; length++ {
			list = append(list, strings.Repeat("x", length)+tail+"y")
		}
	}
	for _, s := range list {
		if got, want := codec.Qp(s), quotedOf(s); got != want {
			t.Errorf("Qp(%.90q) = %.90q, want %.90q", s, got, want)
		}
	}
}

// P6.3: soft line breaks, trailing blanks, terminators and escape sequences.
func TestUnQpOfKnownStrings(t *testing.T) {
	for _, c := range []struct{ s, want string }{
		{"", ""},
		{"pouch", "pouch"},
		{"a=3Db", "a=b"},
		// Soft line breaks.
		{"a=\r\nb", "ab"},
		{"a=\nb", "ab"},
		{"a=", "a"},
		{"=", ""},
		{"=\r\n", ""},
		{"=\n", ""},
		{"=\r\n=\n=", ""},
		{"a=\r\n\r\nb", "a\r\nb"},
		{"a=\n\nb", "a\nb"},
		{"a=\r\n", "a"},
		{"a= \t\r\nb", "ab"},
		{"a=\t \nb", "ab"},
		{"a= ", "a"},
		{"a=\t", "a"},
		{"a =\r\nb", "a b"},
		{"a \t=\n\tb", "a \t\tb"},
		{"a = \r\n b", "a  b"},
		{"a == \nb", "a =b"},
		{"a==\r\nb", "a=b"},
		{"a==", "a="},
		{"a= =", "a= "},
		{"a=41=\r\nb", "aAb"},
		{"a=\rb", "a=\rb"},
		{"a=\r\r\nb", "a=\r\r\nb"},
		{"a=\r", "a=\r"},
		// Trailing blanks and the terminators behind them.
		{"a \r\nb", "a\r\nb"},
		{"a\t\nb", "a\nb"},
		{"a \t \t", "a"},
		{" \t", ""},
		{" \r\n\t\n ", "\r\n\n"},
		{" a\tb \n\tc ", " a\tb\n\tc"},
		{"a\r\n", "a\r\n"},
		{"a\n", "a\n"},
		{"\r\n", "\r\n"},
		{"\n", "\n"},
		{"\n\r\n\n", "\n\r\n\n"},
		{"a\x00 \x0c\x0b\n", "a\x00 \x0c\x0b\n"},
		{"a\u00a0\n", "a\u00a0\n"},
		{"a=20\r\n", "a \r\n"},
		{"a=09", "a\t"},
		{"a=20 \r\n", "a \r\n"},
		{"a =20", "a  "},
		{"a=3D\r\nb", "a=\r\nb"},
		{"a=3D ", "a="},
		// A CR that no LF follows is no end of a line.
		{"a\rb", "a\rb"},
		{"a\r", "a\r"},
		{"a \rb", "a \rb"},
		{"a \r", "a \r"},
		{"a \r\r\nb", "a \r\r\nb"},
		{"a\r \r\nb", "a\r\r\nb"},
		{"\r\r\n", "\r\r\n"},
		{"=0D\nb", "\r\nb"},
		{"a =0D=0Ab", "a \r\nb"},
		// Escape sequences, and equals signs that begin none.
		{"=e9=E9=eF=Fe", "\xe9\xe9\xef\xfe"},
		{"=00=0A=0d=ff", "\x00\n\r\xff"},
		{"=3d3D=3D3d", "=3D=3d"},
		{"=4", "=4"},
		{"=4x", "=4x"},
		{"=x4", "=x4"},
		{"=xx", "=xx"},
		{"=g0=0g=G0=0G", "=g0=0g=G0=0G"},
		{"=/0=0/=:0=0:=@0=0@=`0=0`", "=/0=0/=:0=0:=@0=0@=`0=0`"},
		{"= 41", "= 41"},
		{"=4 1", "=4 1"},
		{"==41", "=A"},
		{"=4=41", "=4A"},
		{"=x=41=", "=xA"},
		{"===41=", "==A"},
		{"=\xff41", "=\xff41"},
		{"=\uff14\uff11", "=\uff14\uff11"},
		{"=+1=-1=0x", "=+1=-1=0x"},
		// Escape sequences that the end of a line cuts short.
		{"=4\r\n1", "=4\r\n1"},
		{"=4\n1", "=4\n1"},
		{"=4 \n1", "=4\n1"},
		{"=4=\r\n1", "=41"},
		{"=4=\n1", "=41"},
		{"==\r\n41", "=41"},
		{"=\r\n41", "41"},
		{"=\n41", "41"},
		{"=\r41", "=\r41"},
		{"a=4\r\n", "a=4\r\n"},
		{"_", "_"},
		{"\x7f\x80\xff", "\x7f\x80\xff"},
	} {
		if got := codec.UnQp(c.s); got != c.want {
			t.Errorf("UnQp(%q) = %q, want %q", c.s, got, c.want)
		}
	}
}

// everyPair calls check with each two bytes.
func everyPair(check func(a, b byte)) {
	for a := range 256 {
		for b := range 256 {
			check(byte(a), byte(b))
		}
	}
}

// wantedPair is what an equals sign becomes together with the two bytes behind it.
func wantedPair(s string) string {
	if sequence.MatchString(s[:3]) {
		return byteOf(s[:3]) + s[3:]
	}
	return s
}

// P6.3: an equals sign before any two bytes.
func TestUnQpOfEveryPair(t *testing.T) {
	everyPair(func(a, b byte) {
		if a == '\n' || b == '\n' {
			return
		}
		s := "=" + string([]byte{a, b}) + "x"
		if got, want := codec.UnQp(s), wantedPair(s); got != want {
			t.Errorf("UnQp(%q) = %q, want %q", s, got, want)
		}
	})
}

// P6.3, P1: strings of all kinds are decoded as the chapter defines it.
func TestUnQpOfAnyStrings(t *testing.T) {
	list := append(texts(), samples.Words("=4aGx \t\r\n\xff", 5)...)
	list = append(list, samples.Words("=1 \r\n", 7)...)
	for _, s := range list {
		if got, want := codec.UnQp(s), fromQuoted(s); got != want {
			t.Errorf("UnQp(%.90q) = %.90q, want %.90q", s, got, want)
		}
	}
}

// P6.2, P6.3: what Qp gives is read by another decoder, and what another encoder gives is read by UnQp.
func TestQuotedPrintableElsewhere(t *testing.T) {
	for _, s := range texts() {
		decoded, err := io.ReadAll(quotedprintable.NewReader(strings.NewReader(codec.Qp(s))))
		if err != nil || string(decoded) != s {
			t.Errorf("Qp(%.40q) is read as %.40q, %v", s, decoded, err)
		}
		var encoded strings.Builder
		writer := quotedprintable.NewWriter(&encoded)
		writer.Binary = true
		if _, err := writer.Write([]byte(s)); err != nil || writer.Close() != nil {
			t.Fatal(err)
		}
		if got := codec.UnQp(encoded.String()); got != s {
			t.Errorf("UnQp(%.40q) = %.40q, want %.40q", encoded.String(), got, s)
		}
	}
}
