package ctype

import (
	"slices"
	"strings"

	"pouch/api"
	"pouch/charset"
	"pouch/num"
	"pouch/token"
)

// Sections are numbered from 0 to lastSection; two more numbers tell of the parameters that are no section.
const (
	lastSection = 63
	extended    = -1
	plain       = -2
)

// A place tells which part of the value of which parameter a row gives.
type place struct {
	name    string
	section int
}

// A part is what a row gives for a place. Encoded reports that percent signs in it stand for bytes.
type part struct {
	value   string
	encoded bool
}

// params returns the parameters of rows, in the order in which their names first occur.
func params(l [][]api.Token) []api.Param {
	var names []string
	known := map[string]bool{}
	parts := map[place]part{}
	for _, row := range l {
		name, value, ok := assignment(row)
		if !ok {
			continue
		}
		at, encoded := placed(name)
		if !known[at.name] {
			known[at.name] = true
			names = append(names, at.name)
		}
		if _, taken := parts[at]; !taken {
			parts[at] = part{value, encoded}
		}
	}
	var list []api.Param
	for _, name := range names {
		if l := partsOf(parts, name); len(l) > 0 {
			list = append(list, api.Param{Name: name, Value: joined(l)})
		}
	}
	return list
}

// assignment returns the name, in lower case, and the value that a row gives, and whether it gives any.
func assignment(row []api.Token) (name, value string, ok bool) {
	at := slices.IndexFunc(row, func(t api.Token) bool { return t.Kind == api.TAtom && strings.Contains(t.Text, "=") })
	if at < 0 {
		return "", "", false
	}
	name, value, _ = strings.Cut(row[at].Text, "=")
	name = lower(token.Join(row[:at]) + name)
	if name == "" {
		return "", "", false
	}
	behind := row[at+1:]
	if value == "" && len(behind) > 0 && behind[0].Kind == api.TQuoted {
		return name, token.Value(behind[0]), true
	}
	return name, value + token.Join(behind), true
}

// placed returns the place that a name denotes, and whether the name says that the value is encoded.
func placed(name string) (place, bool) {
	encoded := len(name) > 1 && strings.HasSuffix(name, "*")
	if encoded {
		name = name[:len(name)-1]
	}
	if star := strings.LastIndexByte(name, '*'); star >= 0 {
		section, ok := num.Parse(name[star+1:], 0, lastSection)
		if ok {
			return place{name[:star], section}, encoded
		}
	}
	if encoded {
		return place{name, extended}, true
	}
	return place{name, plain}, false
}

// partsOf returns the parts that make up the value of a name: its sections up to a gap, or else the one part that is the whole value.
func partsOf(parts map[place]part, name string) []part {
	var list []part
	for section := range lastSection + 1 {
		p, ok := parts[place{name, section}]
		if !ok {
			break
		}
		list = append(list, p)
	}
	for _, whole := range []int{extended, plain} {
		if p, ok := parts[place{name, whole}]; ok && len(list) == 0 {
			list = append(list, p)
		}
	}
	return list
}

// joined returns the value that parts make up, of which there is at least one.
func joined(l []part) string {
	first := l[0]
	if !first.encoded {
		return decodedBytes(l)
	}
	set, rest := prefix(first.value)
	bytes := percentDecoded(rest) + decodedBytes(l[1:])
	if set == "" {
		return charset.Repair(bytes)
	}
	text, _ := charset.Decode(set, bytes)
	return text
}

// decodedBytes returns the bytes of parts one after the other.
func decodedBytes(l []part) string {
	var bytes strings.Builder
	for _, p := range l {
		if p.encoded {
			p.value = percentDecoded(p.value)
		}
		bytes.WriteString(p.value)
	}
	return bytes.String()
}

// prefix returns the name of the character set that an encoded value starts with, and what is behind the language that follows it; a value without both is all rest.
func prefix(value string) (set, rest string) {
	set, behind, _ := strings.Cut(value, "'")
	_, rest, found := strings.Cut(behind, "'")
	if !found {
		return "", value
	}
	return set, rest
}

// percentDecoded returns s with a byte for each percent sign that has two hexadecimal digits behind it.
func percentDecoded(s string) string {
	var text strings.Builder
	for i := 0; i < len(s); i++ {
		if s[i] == '%' && i+2 < len(s) {
			if b, ok := num.Unhex(s[i+1 : i+3]); ok {
				text.WriteString(b)
				i += 2
				continue
			}
		}
		text.WriteByte(s[i])
	}
	return text.String()
}
