package addr

import "strings"

// maxId is the number of bytes that a message id has at most.
const maxId = 250

// Ids returns the message ids that stand in angle brackets.
func Ids(s string) []string {
	var ids []string
	for {
		before, behind, closed := strings.Cut(s, ">")
		if !closed {
			return ids
		}
		// An id contains no angle bracket, so it can stand behind the last one only.
		open := strings.LastIndexByte(before, '<')
		if open >= 0 && isId(before[open+1:]) {
			ids = append(ids, strings.Clone(before[open+1:]))
		}
		s = behind
	}
}

// isId reports whether s, in which there is no angle bracket, is a message id.
func isId(s string) bool {
	return s != "" && len(s) <= maxId && isSolid(s)
}
