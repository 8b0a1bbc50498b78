package codec_test

import (
	"encoding/base64"
	"strings"
	"testing"

	"pouch/codec"
	"pouch/samples"
)

// alphabet are the characters of base64, in the order of their values.
const alphabet = "ABCDEFGHIJKLMNOPQRSTUVWXYZabcdefghijklmnopqrstuvwxyz0123456789+/"

// base64Of is s in base64, in lines of 76 characters.
func base64Of(s string) string {
	chars := base64.StdEncoding.EncodeToString([]byte(s))
	var text strings.Builder
	for len(chars) > 76 {
		text.WriteString(chars[:76] + "\r\n")
		chars = chars[76:]
	}
	if chars != "" {
		text.WriteString(chars + "\r\n")
	}
	return text.String()
}

// fromBase64 decodes s as the chapter defines it, group by group.
func fromBase64(s string) string {
	var values []int
	for i := range len(s) {
		if s[i] == '=' {
			break
		}
		if value := strings.IndexByte(alphabet, s[i]); value >= 0 {
			values = append(values, value)
		}
	}
	var bytes []byte
	for len(values) >= 4 {
		n := values[0]*64*64*64 + values[1]*64*64 + values[2]*64 + values[3]
		bytes = append(bytes, byte(n/256/256), byte(n/256%256), byte(n%256))
		values = values[4:]
	}
	switch len(values) {
	case 2:
		bytes = append(bytes, byte(values[0]*4+values[1]/16))
	case 3:
		bytes = append(bytes, byte(values[0]*4+values[1]/16), byte(values[1]%16*16+values[2]/4))
	}
	return string(bytes)
}

// P6.1: each group of three bytes makes four characters, and a shorter last one is padded.
func TestB64OfKnownStrings(t *testing.T) {
	for _, c := range []struct{ s, want string }{
		{"", ""},
		{"f", "Zg==\r\n"},
		{"fo", "Zm8=\r\n"},
		{"foo", "Zm9v\r\n"},
		{"foob", "Zm9vYg==\r\n"},
		{"fooba", "Zm9vYmE=\r\n"},
		{"foobar", "Zm9vYmFy\r\n"},
		{"ab", "YWI=\r\n"},
		{"\x00", "AA==\r\n"},
		{"\x00\x00", "AAA=\r\n"},
		{"\x00\x00\x00", "AAAA\r\n"},
		{"\xff", "/w==\r\n"},
		{"\xff\xff", "//8=\r\n"},
		{"\xff\xff\xff", "////\r\n"},
		{"\xfb\xef\xbe", "++++\r\n"},
		{"\x80\x40\x20", "gEAg\r\n"},
		{"\x01\x02\x04", "AQIE\r\n"},
		{"\x00\x10\x83\x10\x51\x87\x20\x92\x8b", "ABCDEFGHIJKL\r\n"},
		{"\r\n=", "DQo9\r\n"},
		{"ä€", "w6Tigqw=\r\n"},
	} {
		if got := codec.B64(c.s); got != c.want {
			t.Errorf("B64(%q) = %q, want %q", c.s, got, c.want)
		}
	}
}

// P6.1: a line has 76 characters; the last one is shorter where no more are left, and no empty one follows.
func TestB64Lines(t *testing.T) {
	full := strings.Repeat("A", 76) + "\r\n"
	for _, c := range []struct {
		length int
		want   string
	}{
		{54, strings.Repeat("A", 72) + "\r\n"},
		{55, strings.Repeat("A", 74) + "==\r\n"},
		{56, strings.Repeat("A", 75) + "=\r\n"},
		{57, full},
		{58, full + "AA==\r\n"},
		{59, full + "AAA=\r\n"},
		{60, full + "AAAA\r\n"},
		{61, full + "AAAAAA==\r\n"},
		{113, full + strings.Repeat("A", 75) + "=\r\n"},
		{114, full + full},
		{115, full + full + "AA==\r\n"},
		{570, strings.Repeat(full, 10)},
		{573, strings.Repeat(full, 10) + "AAAA\r\n"},
	} {
		if got := codec.B64(strings.Repeat("\x00", c.length)); got != c.want {
			t.Errorf("B64 of %d bytes = %q, want %q", c.length, got, c.want)
		}
	}
}

// P6.1: strings of all kinds are encoded as base64 is known elsewhere.
func TestB64OfAnyStrings(t *testing.T) {
	for _, s := range texts() {
		if got, want := codec.B64(s), base64Of(s); got != want {
			t.Errorf("B64(%.40q) = %.90q, want %.90q", s, got, want)
		}
	}
}

// P6.1: decoding of known strings: where it ends, what it skips, and what remaining characters give.
func TestUnB64OfKnownStrings(t *testing.T) {
	for _, c := range []struct{ s, want string }{
		{"", ""},
		{"YWJj", "abc"},
		{"YWJjZGVm", "abcdef"},
		{"AAAA", "\x00\x00\x00"},
		{"////", "\xff\xff\xff"},
		{"++++", "\xfb\xef\xbe"},
		// Remaining characters, without padding and with any number of signs.
		{"Y", ""},
		{"/", ""},
		{"YQ", "a"},
		{"YWI", "ab"},
		{"YWJjY", "abc"},
		{"YWJjYQ", "abca"},
		{"YWJjYWI", "abcab"},
		{"YQ=", "a"},
		{"YQ==", "a"},
		{"YQ===", "a"},
		{"YWI=", "ab"},
		{"YWI==", "ab"},
		{"Y=", ""},
		{"Y===", ""},
		{"YWJj=", "abc"},
		// The low bits of the last remaining character are dropped.
		{"YR", "a"},
		{"Yf", "a"},
		{"YWJ", "ab"},
		{"YWL", "ab"},
		{"//", "\xff"},
		{"///", "\xff\xff"},
		// The first equals sign, wherever it stands, and what follows it.
		{"=", ""},
		{"====", ""},
		{"=YWJj", ""},
		{"=YQ==", ""},
		{"YQ==YQ==", "a"},
		{"YQ=YQ", "a"},
		{"YW=Jj", "a"},
		{"YWJ=j", "ab"},
		{"Y=WJj", ""},
		{"YWJj=YWJj", "abc"},
		{"YWJj\r\n=\r\nYWJj", "abc"},
		// Bytes outside the alphabet.
		{"YW\r\nJj", "abc"},
		{"YW\nJj\n", "abc"},
		{"\rY\rW\rJ\rj\r", "abc"},
		{" Y W\tJ\x00j", "abc"},
		{"Y*W,J.j", "abc"},
		{"Y-W:J@j", "abc"},
		{"Y[W`J{j_", "abc"},
		{"Y\x80W\xffJ\xc3\xa4j", "abc"},
		{"\x7fYQ~!", "a"},
		{"-_", ""},
		{" \r\n\t", ""},
		{"Y Q = = Y Q", "a"},
		{" =YQ", ""},
		{"YWJj\r\nYQ==\r\n", "abca"},
	} {
		if got := codec.UnB64(c.s); got != c.want {
			t.Errorf("UnB64(%q) = %q, want %q", c.s, got, c.want)
		}
	}
}

// P6.1: each byte is a character of its value, ends the input or is skipped, at each of the four places.
func TestUnB64OfEveryByte(t *testing.T) {
	all := samples.AllBytes()
	for b := range len(all) {
		char := all[b : b+1]
		for at := range 5 {
			s := "QUJD"[:at] + char + "QUJD"[at:] + "REVG"
			if got, want := codec.UnB64(s), fromBase64(s); got != want {
				t.Errorf("UnB64(%q) = %q, want %q", s, got, want)
			}
		}
		value := strings.Index(alphabet, char)
		want := ""
		if value >= 0 {
			want = string([]byte{byte(value * 4)})
		}
		if got := codec.UnB64(char + "A"); got != want {
			t.Errorf("UnB64 of byte %d with A = %q, want %q", b, got, want)
		}
	}
}

// P6.1, P1: strings of all kinds are decoded as the chapter defines it.
func TestUnB64OfAnyStrings(t *testing.T) {
	list := append(texts(), samples.Words("AZaz/+=\n-\xff", 5)...)
	for _, s := range list {
		if got, want := codec.UnB64(s), fromBase64(s); got != want {
			t.Errorf("UnB64(%.40q) = %.40q, want %.40q", s, got, want)
		}
	}
}

// P6.1, P6.5: UnB64 takes what other encoders give: another length of lines, other line ends, no padding.
func TestUnB64OfOtherEncoders(t *testing.T) {
	for length := range 200 {
		s := samples.Noise(length, 3)
		for _, chars := range []string{base64.StdEncoding.EncodeToString([]byte(s)), base64.RawStdEncoding.EncodeToString([]byte(s))} {
			for _, end := range []string{"", "\n", "\r\n", "\r", " \r\n"} {
				encoded := chars
				if len(chars) > 61 {
					encoded = chars[:61] + end + chars[61:]
				}
				if got := codec.UnB64(encoded + end); got != s {
					t.Errorf("UnB64(%q) = %q, want %q", encoded+end, got, s)
				}
			}
		}
	}
}
