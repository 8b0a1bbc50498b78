package samples_test

import (
	"slices"
	"testing"
	"unicode/utf8"

	"pouch/samples"
)

func TestEncodings(t *testing.T) {
	for n := -3; n < 1114120; n++ {
		if got := samples.IsRune(n); got != utf8.ValidRune(rune(n)) {
			t.Errorf("IsRune(%d) = %v", n, got)
		}
		if !samples.IsRune(n) {
			continue
		}
		s := samples.Encoding(n)
		if s != string(rune(n)) {
			t.Errorf("Encoding(%d) = %q", n, s)
		}
		if point, length := samples.FirstRune(s + "\x80a"); point != n || length != len(s) {
			t.Errorf("FirstRune(%q) = %d, %d", s, point, length)
		}
	}
}

func TestTexts(t *testing.T) {
	texts := samples.Texts()
	for _, s := range texts {
		want, length := utf8.DecodeRuneInString(s)
		if want == utf8.RuneError && length < 3 {
			want, length = 0, 0
		}
		if point, n := samples.FirstRune(s); point != int(want) || n != length {
			t.Errorf("FirstRune(%.9q) = %d, %d, want %d, %d", s, point, n, want, length)
		}
	}
	for _, s := range []string{"", "\xff", "\x80\x80", "\xc3a", "\xc1\xbf", "\xed\xa0\x80", "\xf0\x8f\xbf\xbf", "\xf4\x90\x80\x80", samples.Noise(1000, 7)} {
		if !slices.Contains(texts, s) {
			t.Errorf("%.9q is missing", s)
		}
	}
}
