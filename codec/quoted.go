package codec

import "strings"

const (
	blanks    = " \t"
	softBreak = "=" + crlf
	// longestLine leaves a place for the `=` of a soft line break.
	longestLine = 75
)

// Qp encodes a byte string as quoted-printable.
func Qp(s string) string {
	var text strings.Builder
	for more := true; more; {
		var line string
		line, s, more = strings.Cut(s, crlf)
		writeQuoted(&text, line)
		if more {
			text.WriteString(crlf)
		}
	}
	return text.String()
}

// writeQuoted appends the encoding of a line without its terminator to text.
func writeQuoted(text *strings.Builder, line string) {
	length := 0
	for i := range len(line) {
		char := line[i : i+1]
		if !isQuotedAsItself(char[0], i == len(line)-1) {
			char = escaped(char)
		}
		if length+len(char) > longestLine {
			text.WriteString(softBreak)
			length = 0
		}
		text.WriteString(char)
		length += len(char)
	}
}

// isQuotedAsItself reports whether quoted-printable copies a byte, where last tells whether it is the last one of its line.
func isQuotedAsItself(c byte, last bool) bool {
	if c == ' ' || c == '\t' {
		return !last
	}
	return '!' <= c && c <= '~' && c != '='
}

// UnQp decodes quoted-printable leniently.
func UnQp(s string) string {
	var text strings.Builder
	for s != "" {
		line, terminator, rest := cutLine(s)
		line = strings.TrimRight(line, blanks)
		line, soft := strings.CutSuffix(line, "=")
		text.WriteString(unescaped(line))
		if !soft {
			text.WriteString(terminator)
		}
		s = rest
	}
	return text.String()
}

// cutLine returns the first line of s, its terminator, which the last line may lack, and what follows them.
func cutLine(s string) (line, terminator, rest string) {
	line, rest, terminated := strings.Cut(s, "\n")
	if !terminated {
		return line, "", ""
	}
	if shorter, found := strings.CutSuffix(line, "\r"); found {
		return shorter, crlf, rest
	}
	return line, "\n", rest
}
