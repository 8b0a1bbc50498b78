package header

import "strings"

const (
	// longestLine is how long a line may grow by a piece behind its first, without its CRLF.
	longestLine = 78
	separator   = colon + " "
)

// Put returns the field with a name and the clean value of value, folded, or the empty string if the name is not valid.
func Put(name, value string) string {
	if !Right(name) {
		return ""
	}
	var text strings.Builder
	text.WriteString(name)
	text.WriteString(separator)
	length := len(name) + len(separator)
	for i, piece := range pieces(clean(value)) {
		if i > 0 && length+len(piece) > longestLine {
			text.WriteString(crlf)
			length = 0
		}
		text.WriteString(piece)
		length += len(piece)
	}
	text.WriteString(crlf)
	return text.String()
}

// clean returns s with every CR and LF replaced by a space, and without blanks at both ends.
func clean(s string) string {
	s = strings.ReplaceAll(s, cr, " ")
	s = strings.ReplaceAll(s, lf, " ")
	return strings.Trim(s, blanks)
}

// pieces cuts a clean value before each blank that does not follow a blank. As a clean value ends with no blank, no piece behind the first consists of blanks alone.
func pieces(value string) []string {
	var list []string
	start := 0
	for i := 1; i < len(value); i++ {
		if isBlank(value[i]) && !isBlank(value[i-1]) {
			list = append(list, value[start:i])
			start = i
		}
	}
	return append(list, value[start:])
}
