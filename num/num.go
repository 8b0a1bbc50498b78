// Package num formats and parses decimal integers and encodes bytes in hexadecimal. It is layer 1; see shared/doc/01-num.md.
package num

import (
	"strconv"
	"strings"
)

const (
	maxWidth  = 100
	hexDigits = "0123456789abcdef"
)

// Text is specified in P1.1 of shared/doc/01-num.md.
func Text(n int) string { return strconv.Itoa(n) }

// Parse is specified in P1.1 of shared/doc/01-num.md.
func Parse(s string, low, high int) (int, bool) {
	// strconv alone would also take a plus sign and leading zeros.
	if !canonical(s) {
		return 0, false
	}
	n, err := strconv.Atoi(s)
	if err != nil || n < low || n > high {
		return 0, false
	}
	return n, true
}

// canonical reports whether s is the canonical decimal form of an integer of any size.
func canonical(s string) bool {
	digits := strings.TrimPrefix(s, "-")
	if digits == "" {
		return false
	}
	if digits[0] == '0' {
		return s == "0"
	}
	for _, c := range digits {
		if c < '0' || c > '9' {
			return false
		}
	}
	return true
}

// Pad is specified in P1.2 of shared/doc/01-num.md.
func Pad(n, width int) string {
	if n < 0 || width < 0 || width > maxWidth {
		return ""
	}
	digits := Text(n)
	return strings.Repeat("0", max(0, width-len(digits))) + digits
}

// Hex is specified in P1.3 of shared/doc/01-num.md.
func Hex(s string) string {
	digits := make([]byte, 0, 2*len(s))
	// By index and not by range over s: the bytes count here, not the runes.
	for i := range len(s) {
		digits = append(digits, hexDigits[s[i]>>4], hexDigits[s[i]&15])
	}
	return string(digits)
}

// Unhex is specified in P1.3 of shared/doc/01-num.md.
func Unhex(s string) (string, bool) {
	if len(s)%2 != 0 {
		return "", false
	}
	valid := true
	digit := func(c byte) byte {
		switch {
		case '0' <= c && c <= '9':
			return c - '0'
		case 'a' <= c && c <= 'f':
			return c - 'a' + 10
		case 'A' <= c && c <= 'F':
			return c - 'A' + 10
		}
		valid = false
		return 0
	}
	bytes := make([]byte, 0, len(s)/2)
	for i := 0; i < len(s) && valid; i += 2 {
		bytes = append(bytes, digit(s[i])<<4|digit(s[i+1]))
	}
	if !valid {
		return "", false
	}
	return string(bytes), true
}

// Clamp is specified in P1.2 of shared/doc/01-num.md.
func Clamp(n, low, high int) int {
	// The order matters where low is above high.
	if n < low {
		return low
	}
	if n > high {
		return high
	}
	return n
}
