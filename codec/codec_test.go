package codec_test

import (
	"strings"
	"testing"
	"unsafe"

	"pouch/codec"
	"pouch/samples"
)

// texts lists strings of all kinds: short ones of any bytes, all lengths up to several lines, and blanks, equals signs and line ends in every order.
func texts() []string {
	list := samples.Words(samples.AllBytes(), 2)
	list = append(list, samples.Words("a \t\r\n=_\xff", 4)...)
	list = append(list, samples.AllBytes(), strings.Repeat(samples.AllBytes(), 3))
	for length := range 500 {
		list = append(list, samples.Noise(length, uint64(length)), samples.Noise(length, 1)+" ")
		list = append(list, strings.Repeat("x", length), strings.Repeat(" ", length), strings.Repeat("\xff=", length))
	}
	for seed := range uint64(10) {
		list = append(list, samples.Noise(5000, seed))
	}
	return list
}

// P6.4: Q copies letters, digits and five signs; a space becomes `_`, every other byte its escape sequence.
func TestQOfEveryByte(t *testing.T) {
	const copied = "ABCDEFGHIJKLMNOPQRSTUVWXYZabcdefghijklmnopqrstuvwxyz0123456789!*+-/"
	all := samples.AllBytes()
	for b := range len(all) {
		char := all[b : b+1]
		want := sequenceOf(byte(b))
		switch {
		case char == " ":
			want = "_"
		case strings.Contains(copied, char):
			want = char
		}
		if got := codec.Q(char); got != want {
			t.Errorf("Q of byte %d = %q, want %q", b, got, want)
		}
		if got := codec.Q("x" + char + "y"); got != "x"+want+"y" {
			t.Errorf("Q with byte %d in the middle = %q, want %q", b, got, "x"+want+"y")
		}
	}
}

// P6.4: Q goes byte by byte and knows neither lines nor a longest one.
func TestQOfKnownStrings(t *testing.T) {
	for _, c := range []struct{ s, want string }{
		{"", ""},
		{"a A", "a_A"},
		{"  ", "__"},
		{"_", "=5F"},
		{"a_b c", "a=5Fb_c"},
		{"=41", "=3D41"},
		{"ä€", "=C3=A4=E2=82=AC"},
		{"a\r\nb", "a=0D=0Ab"},
		{"\t?.,\"(", "=09=3F=2E=2C=22=28"},
		{strings.Repeat("x", 200), strings.Repeat("x", 200)},
		{strings.Repeat("\xff ", 200), strings.Repeat("=FF_", 200)},
	} {
		if got := codec.Q(c.s); got != c.want {
			t.Errorf("Q(%q) = %q, want %q", c.s, got, c.want)
		}
	}
}

// fromQ decodes s as the chapter defines it.
func fromQ(s string) string {
	parts := strings.Split(s, "_")
	for i, part := range parts {
		parts[i] = sequence.ReplaceAllStringFunc(part, byteOf)
	}
	return strings.Join(parts, " ")
}

// P6.4: UnQ decodes `_` and escape sequences, and copies everything else.
func TestUnQOfKnownStrings(t *testing.T) {
	for _, c := range []struct{ s, want string }{
		{"", ""},
		{"a_=41", "a A"},
		{"_", " "},
		{"__", "  "},
		{"a b", "a b"},
		{"=5F", "_"},
		{"=5f_=5F", "_ _"},
		{"=20=09", " \t"},
		{"=e9=E9=eF=Fe", "\xe9\xe9\xef\xfe"},
		{"=3D41", "=41"},
		{"=3d5F", "=5F"},
		{"=", "="},
		{"==", "=="},
		{"=4", "=4"},
		{"=_41", "= 41"},
		{"=4_1", "=4 1"},
		{"=_", "= "},
		{"=x4=4x", "=x4=4x"},
		{"==41", "=A"},
		{"=4=41=", "=4A="},
		{"=/0=0/=:0=0:=@0=0@=`0=0`=g0=0G", "=/0=0/=:0=0:=@0=0@=`0=0`=g0=0G"},
		// Line ends and trailing blanks are bytes like any other here.
		{"a=\r\nb", "a=\r\nb"},
		{"a \t\r\nb ", "a \t\r\nb "},
		{"=4\r\n1", "=4\r\n1"},
		{"a=\n", "a=\n"},
		{"\x00?\x7f\x80\xff", "\x00?\x7f\x80\xff"},
	} {
		if got := codec.UnQ(c.s); got != c.want {
			t.Errorf("UnQ(%q) = %q, want %q", c.s, got, c.want)
		}
	}
}

// P6.4: an equals sign before any two bytes.
func TestUnQOfEveryPair(t *testing.T) {
	everyPair(func(a, b byte) {
		s := "=" + string([]byte{a, b}) + "x"
		want := strings.ReplaceAll(wantedPair(s), "_", " ")
		if s == "=5Fx" || s == "=5fx" {
			want = "_x"
		}
		if got := codec.UnQ(s); got != want {
			t.Errorf("UnQ(%q) = %q, want %q", s, got, want)
		}
	})
}

// P6.4, P1: strings of all kinds are encoded and decoded as the chapter defines it.
func TestQAndUnQOfAnyStrings(t *testing.T) {
	for _, s := range append(texts(), samples.Words("=4fFGx_ \n\xff", 5)...) {
		if got, want := codec.UnQ(s), fromQ(s); got != want {
			t.Errorf("UnQ(%.40q) = %.40q, want %.40q", s, got, want)
		}
		var parts strings.Builder
		for i := range len(s) {
			parts.WriteString(codec.Q(s[i : i+1]))
		}
		if got := codec.Q(s); got != parts.String() {
			t.Errorf("Q(%.40q) = %.40q, want %.40q", s, got, parts.String())
		}
	}
}

// P6.5: decoding inverts encoding, in each of the three encodings.
func TestDecodingInvertsEncoding(t *testing.T) {
	for _, s := range texts() {
		if got := codec.UnB64(codec.B64(s)); got != s {
			t.Errorf("UnB64(B64(%.40q)) = %.40q", s, got)
		}
		if got := codec.UnQp(codec.Qp(s)); got != s {
			t.Errorf("UnQp(Qp(%.40q)) = %.40q", s, got)
		}
		if got := codec.UnQ(codec.Q(s)); got != s {
			t.Errorf("UnQ(Q(%.40q)) = %.40q", s, got)
		}
	}
}

// checkLines holds the lines of an encoded text against P6.5.
func checkLines(t *testing.T, what, encoded string) {
	t.Helper()
	for line := range strings.SplitSeq(encoded, "\r\n") {
		if len(line) > 76 {
			t.Errorf("%s has a line of %d bytes: %q", what, len(line), line)
		}
		if strings.HasSuffix(line, " ") || strings.HasSuffix(line, "\t") {
			t.Errorf("%s has a line with a blank at its end: %q", what, line)
		}
		for i := range len(line) {
			if line[i] != '\t' && (line[i] < 32 || line[i] > 126) {
				t.Errorf("%s has a byte that is neither printable nor a blank: %q", what, line)
			}
		}
	}
}

// P6.5: the lines of base64 and of quoted-printable are short, printable and end with no blank.
func TestLinesOfEncodedTexts(t *testing.T) {
	for _, s := range texts() {
		checkLines(t, "B64", codec.B64(s))
		checkLines(t, "Qp", codec.Qp(s))
	}
}

// R2: the calls change and keep none of their arguments: the answers stay as they are when the memory of these is written over.
func TestArgumentsAreNotKept(t *testing.T) {
	for _, c := range []struct {
		what string
		call func(string) string
		s    string
		want string
	}{
		{"B64", codec.B64, "abc", "YWJj\r\n"},
		{"UnB64", codec.UnB64, "YWJj", "abc"},
		{"Qp", codec.Qp, "pouch", "pouch"},
		{"Qp", codec.Qp, "p\r\n=", "p\r\n=3D"},
		{"UnQp", codec.UnQp, "pouch", "pouch"},
		{"UnQp", codec.UnQp, "p=\r\no=41 ", "poA"},
		{"Q", codec.Q, "pouch", "pouch"},
		{"Q", codec.Q, "p o", "p_o"},
		{"UnQ", codec.UnQ, "pouch", "pouch"},
		{"UnQ", codec.UnQ, "p_=41", "p A"},
	} {
		bytes := []byte(c.s)
		got := c.call(unsafe.String(&bytes[0], len(bytes)))
		if string(bytes) != c.s {
			t.Errorf("%s changed its argument to %q", c.what, bytes)
		}
		clear(bytes)
		if got != c.want {
			t.Errorf("%s(%q) = %q, want %q", c.what, c.s, got, c.want)
		}
	}
}

// P1: the calls end soon for long strings of the kinds that they stop at.
func TestLongStrings(t *testing.T) {
	for _, unit := range []string{"=", " ", "\r\n", "=\n", "\r", "_", "=4", "=41", "x", "\xff", " \n"} {
		s := strings.Repeat(unit, 100000)
		if codec.UnB64(codec.B64(s)) != s || codec.UnQp(codec.Qp(s)) != s || codec.UnQ(codec.Q(s)) != s {
			t.Errorf("decoding of %q, repeated, does not invert encoding", unit)
		}
		if got := codec.UnB64(s); got != fromBase64(s) {
			t.Errorf("UnB64 of %q, repeated, has %d bytes", unit, len(got))
		}
		if got := codec.UnQ(s); got != fromQ(s) {
			t.Errorf("UnQ of %q, repeated, has %d bytes", unit, len(got))
		}
		if got := codec.UnQp(s); got != fromQuoted(s) {
			t.Errorf("UnQp of %q, repeated, has %d bytes", unit, len(got))
		}
	}
}
