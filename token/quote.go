package token

import (
	"strings"

	"pouch/api"
)

// Value returns what a quoted string or a comment says, without its enclosing bytes and escapes, and the text of any other token.
func Value(t api.Token) string {
	encloses := t.Kind == api.TQuoted || t.Kind == api.TComment
	if !encloses || len(t.Text) < 2 {
		return strings.Clone(t.Text)
	}
	return unescaped(t.Text[1 : len(t.Text)-1])
}

// Quote returns s as it is, if it consists of atoms separated by single spaces, and enclosed in double quotes otherwise.
func Quote(s string) string {
	if isPlain(s) {
		return strings.Clone(s)
	}
	var text strings.Builder
	text.WriteByte(quote)
	for i := range len(s) {
		switch s[i] {
		case quote, escape, '\n', '\r':
			text.WriteByte(escape)
		}
		text.WriteByte(s[i])
	}
	text.WriteByte(quote)
	return text.String()
}

// unescaped returns s without its escaping backslashes, and without the line breaks that are not escaped.
func unescaped(s string) string {
	var text strings.Builder
	for i := 0; i < len(s); i++ {
		switch s[i] {
		case '\n', '\r':
		case escape:
			// At the end there is no byte that it escapes.
			i++
			if i < len(s) {
				text.WriteByte(s[i])
			}
		default:
			text.WriteByte(s[i])
		}
	}
	return text.String()
}

// isPlain reports whether s consists of one or more atoms separated by single spaces.
func isPlain(s string) bool {
	for word := range strings.SplitSeq(s, " ") {
		if word == "" || prefix(word, isAtom) < len(word) {
			return false
		}
	}
	return true
}
