package samples

import "strings"

// IsRune reports whether n is a code point that has an encoding.
func IsRune(n int) bool { return 0 <= n && n <= 1114111 && (n < 55296 || n > 57343) }

// Encoding returns the UTF-8 encoding of a code point.
func Encoding(n int) string {
	switch {
	case n < 128:
		return string([]byte{byte(n)})
	case n < 2048:
		return string([]byte{byte(192 + n/64), byte(128 + n%64)})
	case n < 65536:
		return string([]byte{byte(224 + n/4096), byte(128 + n/64%64), byte(128 + n%64)})
	}
	return string([]byte{byte(240 + n/262144), byte(128 + n/4096%64), byte(128 + n/64%64), byte(128 + n%64)})
}

// FirstRune returns the code point whose encoding s starts with, and the length of that encoding, or 0, 0 if s starts with none.
func FirstRune(s string) (point, length int) {
	for n := 1; n <= min(4, len(s)); n++ {
		if x := payload(s[:n]); IsRune(x) && Encoding(x) == s[:n] {
			return x, n
		}
	}
	return 0, 0
}

// payload is the only integer of which a string of one to four bytes can be the encoding.
func payload(s string) int {
	x := int(s[0])
	if len(s) > 1 {
		x &= 0x7f >> len(s)
	}
	for i := 1; i < len(s); i++ {
		x = x<<6 | int(s[i])&0x3f
	}
	return x
}

// Texts lists strings of valid and of broken UTF-8: all of at most two bytes, longer ones of the bytes at which the encodings change, and some without a pattern.
func Texts() []string {
	list := Words(AllBytes(), 2)
	list = append(list, Words("a\x7f\x80\x8f\x90\x9f\xa0\xbf\xc0\xc1\xc2\xdf\xe0\xe1\xed\xee\xef\xf0\xf1\xf4\xf5\xff", 4)...)
	list = append(list, AllBytes(), strings.Repeat("\xff", 3000), strings.Repeat("\xf0\x9f\x98\x80", 1000)+"\xf0\x9f\x98")
	for seed := range uint64(20) {
		list = append(list, Noise(1000, seed))
	}
	return list
}
