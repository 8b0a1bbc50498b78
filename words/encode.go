package words

import (
	"strings"

	"pouch/charset"
	"pouch/codec"
)

const (
	wordStart = opening + "utf-8?Q?"
	wordEnd   = separator + ending
	// longestText is how many bytes of encoded text fit into a word of 75 bytes.
	longestText = 75 - len(wordStart) - len(wordEnd)
)

// Encode returns s as it is, if it is printable ASCII in which no encoded word can begin, and as encoded words otherwise.
func Encode(s string) string {
	if within(s, ' ', '~') && !strings.Contains(s, opening) {
		return strings.Clone(s)
	}
	var text strings.Builder
	text.WriteString(wordStart)
	length := 0
	for _, char := range charset.Repair(s) {
		encoded := codec.Q(string(char))
		if length+len(encoded) > longestText {
			text.WriteString(wordEnd + " " + wordStart)
			length = 0
		}
		text.WriteString(encoded)
		length += len(encoded)
	}
	text.WriteString(wordEnd)
	return text.String()
}
