package addr

import (
	"strings"

	"pouch/api"
	"pouch/token"
)

// The bounds of a valid address, in bytes.
const (
	maxLocal  = 64
	maxDomain = 255
	maxName   = 200
)

// Write returns the addresses as they are written in a field.
func Write(l []api.Addr) string {
	var text strings.Builder
	for i, a := range l {
		if i > 0 {
			text.WriteString(", ")
		}
		text.WriteString(written(a))
	}
	return text.String()
}

// Right reports whether an address is valid.
func Right(a api.Addr) bool {
	return a.Local != "" && isText(a.Local, maxLocal) && isDomain(a.Domain) && isText(a.Name, maxName)
}

// Canon returns the local part and the domain in the form by which addresses are compared.
func Canon(a api.Addr) string {
	return a.Local + "@" + lower(a.Domain)
}

// written returns one address as it is written in a field.
func written(a api.Addr) string {
	local := a.Local
	if !isDotAtom(local) {
		local = quoted(local)
	}
	spec := local + "@" + a.Domain
	if a.Name == "" {
		return spec
	}
	return token.Quote(a.Name) + " <" + spec + ">"
}

// quoted returns s as a quoted string. Unlike token.Quote it encloses atoms between spaces too, as a space would end a local part, and leaves line breaks as they are.
func quoted(s string) string {
	var text strings.Builder
	text.WriteByte('"')
	for i := range len(s) {
		if s[i] == '"' || s[i] == '\\' {
			text.WriteByte('\\')
		}
		text.WriteByte(s[i])
	}
	text.WriteByte('"')
	return text.String()
}

// isText reports whether s has at most limit bytes and no control character among them.
func isText(s string, limit int) bool {
	if len(s) > limit {
		return false
	}
	for i := range len(s) {
		if s[i] < ' ' || s[i] == 127 {
			return false
		}
	}
	return true
}

func isDomain(s string) bool {
	return len(s) <= maxDomain && (isDotAtom(s) || isLiteral(s))
}

// isDotAtom asks for the tokens: no byte is lost by them, and two dots in a row would have no atom between them.
func isDotAtom(s string) bool {
	_, ok := dotted(token.Scan(s), api.TAtom)
	return ok
}

func isLiteral(s string) bool {
	if len(s) < 2 || s[0] != '[' || s[len(s)-1] != ']' {
		return false
	}
	inner := s[1 : len(s)-1]
	return isSolid(inner) && !strings.ContainsAny(inner, `[]\`)
}

// isSolid reports whether s has neither control characters nor spaces.
func isSolid(s string) bool {
	for i := range len(s) {
		if s[i] <= ' ' || s[i] == 127 {
			return false
		}
	}
	return true
}

// lower returns s with its ASCII letters in lower case, and all other bytes as they are.
func lower(s string) string {
	bytes := []byte(s)
	for i, b := range bytes {
		if 'A' <= b && b <= 'Z' {
			bytes[i] = b + 'a' - 'A'
		}
	}
	return string(bytes)
}
