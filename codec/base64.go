package codec

import "strings"

const (
	alphabet = "ABCDEFGHIJKLMNOPQRSTUVWXYZabcdefghijklmnopqrstuvwxyz0123456789+/"
	// noValue is greater than each value of the alphabet.
	noValue = uint8(len(alphabet))
	// groupLength is how many bytes are encoded as a group of four characters.
	groupLength = 3
	// lineGroups is how many groups make a line of 76 characters.
	lineGroups = 19
)

// B64 encodes a byte string as base64.
func B64(s string) string {
	var text strings.Builder
	for groups := 1; s != ""; groups++ {
		group := s[:min(groupLength, len(s))]
		s = s[len(group):]
		chars := groupChars(group)
		text.Write(chars[:])
		if groups%lineGroups == 0 || s == "" {
			text.WriteString(crlf)
		}
	}
	return text.String()
}

// groupChars returns the characters for a group of one to three bytes.
func groupChars(group string) [4]byte {
	var bytes [groupLength]byte
	copy(bytes[:], group)
	chars := [4]byte{
		alphabet[bytes[0]>>2],
		alphabet[(bytes[0]<<4|bytes[1]>>4)&63],
		alphabet[(bytes[1]<<2|bytes[2]>>6)&63],
		alphabet[bytes[2]&63],
	}
	// A group has one character more than bytes; the places that are left are padded.
	for i := len(group) + 1; i < len(chars); i++ {
		chars[i] = '='
	}
	return chars
}

// UnB64 decodes base64 leniently.
func UnB64(s string) string {
	encoded, _, _ := strings.Cut(s, "=")
	values := charValues()
	bytes := make([]byte, 0, len(encoded)/4*groupLength+groupLength)
	pending, count := uint32(0), 0
	for i := range len(encoded) {
		value := values[encoded[i]]
		if value == noValue {
			continue
		}
		// Only the last count bits of pending are still to be decoded; those before them are shifted out in time.
		pending = pending<<6 | uint32(value)
		count += 6
		if count >= 8 {
			count -= 8
			bytes = append(bytes, byte(pending>>count))
		}
	}
	// The bits that are left fill no byte.
	return string(bytes)
}

// charValues returns the value of each byte in base64, noValue for those outside the alphabet.
func charValues() [256]uint8 {
	var values [256]uint8
	for char := range values {
		values[char] = noValue
	}
	for value := range len(alphabet) {
		values[alphabet[value]] = uint8(value)
	}
	return values
}
