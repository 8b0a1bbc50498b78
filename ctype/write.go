package ctype

import (
	"strings"

	"pouch/api"
	"pouch/num"
)

// Write returns the line of a content type.
func Write(t api.Type) string { return Line(t.Kind+"/"+t.Sub, t.Params) }

// Line returns first with the parameters behind it.
func Line(first string, l []api.Param) string {
	var line strings.Builder
	line.WriteString(first)
	for _, p := range l {
		line.WriteString("; ")
		line.WriteString(p.Name)
		writeValue(&line, p.Value)
	}
	return line.String()
}

// writeValue writes a value in the first of these forms that can hold it: as it is, in double quotes, or with percent signs.
func writeValue(line *strings.Builder, value string) {
	switch {
	case value != "" && isPrintable(value) && !strings.ContainsAny(value, " ()<>@,;:\\\"/[]?="):
		line.WriteByte('=')
		line.WriteString(value)
	case isPrintable(value):
		line.WriteByte('=')
		writeQuoted(line, value)
	default:
		line.WriteString("*=utf-8''")
		writeEncoded(line, value)
	}
}

func writeEncoded(line *strings.Builder, value string) {
	for i := range len(value) {
		if isLetterOrDigit(value[i]) || strings.IndexByte("-._~", value[i]) >= 0 {
			line.WriteByte(value[i])
			continue
		}
		line.WriteByte('%')
		line.WriteString(strings.ToUpper(num.Hex(value[i : i+1])))
	}
}

func writeQuoted(line *strings.Builder, value string) {
	line.WriteByte('"')
	for i := range len(value) {
		if value[i] == '"' || value[i] == '\\' {
			line.WriteByte('\\')
		}
		line.WriteByte(value[i])
	}
	line.WriteByte('"')
}

// isPrintable reports whether every byte of s is a blank or a printable character of ASCII.
func isPrintable(s string) bool {
	for i := range len(s) {
		if s[i] < ' ' || s[i] > '~' {
			return false
		}
	}
	return true
}
