package header_test

import (
	"regexp"
	"slices"
	"strings"
	"testing"
	"unsafe"

	"pouch/api"
	"pouch/header"
	"pouch/samples"
)

const longest = 78

var (
	crOrLf = regexp.MustCompile(`[\r\n]`)
	aPiece = regexp.MustCompile(`[ \t]*[^ \t]+`)
)

// cleanOf is the clean value of a string.
func cleanOf(value string) string {
	return trimmedOf(crOrLf.ReplaceAllLiteralString(value, " "))
}

// putOf is what Put returns, as the chapter defines it.
func putOf(name, value string) string {
	if !header.Right(name) {
		return ""
	}
	lines := []string{name + ": "}
	for i, piece := range aPiece.FindAllString(cleanOf(value), -1) {
		if last := len(lines) - 1; i == 0 || len(lines[last]+piece) <= longest {
			lines[last] += piece
		} else {
			lines = append(lines, piece)
		}
	}
	return strings.Join(lines, "\r\n") + "\r\n"
}

// xs is a piece of n bytes.
func xs(n int) string { return strings.Repeat("x", n) }

// putNames lists valid names, short and long.
func putNames() []string {
	return []string{"A", "Subject", "!~", xs(70), xs(75), xs(76), xs(77), xs(78), xs(79), xs(300)}
}

// putValues lists values of all kinds.
func putValues() []string {
	list := samples.Words("a \t\r\n", 5)
	for n := 1; n < 90; n++ {
		list = append(list, xs(n), xs(n)+" y", xs(n)+"  y", xs(n)+"\t"+xs(n)+" z", "a "+xs(n)+" "+xs(80-n%80), strings.Repeat(xs(n)+" ", 9), strings.Repeat("y", n)+strings.Repeat(" ", n)+"z")
	}
	for _, s := range []string{"a ", "ab\t", "word  and \t more ", "\r\n ", "\xff ", "é\n", ": ", " \x00"} {
		list = append(list, strings.Repeat(s, 200), strings.Repeat(s, 39)+xs(100)+" "+strings.Repeat(s, 20))
	}
	for seed := range uint64(20) {
		noise := samples.Noise(1000, seed)
		list = append(list, noise, strings.NewReplacer("\x80", " ", "\x81", " ", "\x82", " ", "\x83", "\t", "\x84", " \n", "\x85", "\r\n").Replace(noise))
	}
	return append(list, samples.AllBytes())
}

// P9.3: fields of one line: the name, a colon, a space, the clean value and CRLF.
func TestPutOneLine(t *testing.T) {
	for _, c := range []struct{ value, want string }{
		{"", "A: \r\n"},
		{" ", "A: \r\n"},
		{" \t \t", "A: \r\n"},
		{"\r", "A: \r\n"},
		{"\n", "A: \r\n"},
		{"\r\n \n", "A: \r\n"},
		{"b", "A: b\r\n"},
		{" b\t", "A: b\r\n"},
		{"b c", "A: b c\r\n"},
		{"b  c", "A: b  c\r\n"},
		{"b\tc", "A: b\tc\r\n"},
		{"b \t c", "A: b \t c\r\n"},
		{"b\nc", "A: b c\r\n"},
		{"b\rc", "A: b c\r\n"},
		{"b\r\nc", "A: b  c\r\n"},
		{"b\r\n\tc", "A: b  \tc\r\n"},
		{"\nb", "A: b\r\n"},
		{"\rb", "A: b\r\n"},
		{"\r\n b", "A: b\r\n"},
		{"b\n", "A: b\r\n"},
		{"b\r", "A: b\r\n"},
		{"b \r\n\t", "A: b\r\n"},
		{"\r\n\r\nb\r\n\r\n", "A: b\r\n"},
		{"b\n\nC: d", "A: b  C: d\r\n"},
		{": b", "A: : b\r\n"},
		{"b\vc\f", "A: b\vc\f\r\n"},
		{"\u00a0b\u2003", "A: \u00a0b\u2003\r\n"},
		{"\x00\xff\x80", "A: \x00\xff\x80\r\n"},
		{"\xc3 \xa9", "A: \xc3 \xa9\r\n"},
	} {
		if got := header.Put("A", c.value); got != c.want {
			t.Errorf("Put(%q, %q) = %q, want %q", "A", c.value, got, c.want)
		}
	}
}

// P9.3: names are written as they are, and Put returns nothing for one that is not valid.
func TestPutNames(t *testing.T) {
	for _, name := range append(putNames(), "sUBJECT", "X-a_b", "9", ";") {
		if got, want := header.Put(name, "b"), name+": b\r\n"; got != want {
			t.Errorf("Put(%.40q, %q) = %.40q, want %.40q", name, "b", got, want)
		}
	}
	for _, name := range []string{"", " ", "a ", " a", "a b", "a\tb", ":", "a:", ":a", "a\n", "\r\n", "a\r", "\x00", "a\x1f", "\x7f", "a\x80", "\xff", "é", "\u212a", xs(300) + ":", samples.AllBytes()} {
		for _, value := range []string{"", "b", "b c", "\n", xs(100)} {
			if got := header.Put(name, value); got != "" {
				t.Errorf("Put(%.40q, %.40q) = %.40q", name, value, got)
			}
		}
	}
}

// P9.3: where values are folded: at lines of 77, 78 and 79 bytes, before all blanks in a row, and never at the first piece or within one.
func TestPutFolds(t *testing.T) {
	for _, c := range []struct{ name, value, want string }{
		{"A", xs(74), "A: " + xs(74) + "\r\n"},
		{"A", xs(75), "A: " + xs(75) + "\r\n"},
		{"A", xs(76), "A: " + xs(76) + "\r\n"},
		{"A", xs(1000), "A: " + xs(1000) + "\r\n"},
		{"A", xs(72) + " y", "A: " + xs(72) + " y\r\n"},
		{"A", xs(73) + " y", "A: " + xs(73) + " y\r\n"},
		{"A", xs(74) + " y", "A: " + xs(74) + "\r\n y\r\n"},
		{"A", xs(75) + " y", "A: " + xs(75) + "\r\n y\r\n"},
		{"A", xs(1000) + " y", "A: " + xs(1000) + "\r\n y\r\n"},
		{"AB", xs(72) + " y", "AB: " + xs(72) + " y\r\n"},
		{"AB", xs(73) + " y", "AB: " + xs(73) + "\r\n y\r\n"},
		{"A", "y " + xs(73), "A: y " + xs(73) + "\r\n"},
		{"A", "y " + xs(74), "A: y\r\n " + xs(74) + "\r\n"},
		{"A", "y " + xs(77) + " z", "A: y\r\n " + xs(77) + "\r\n z\r\n"},
		{"A", "y " + xs(75) + " z", "A: y\r\n " + xs(75) + " z\r\n"},
		{"A", "y " + xs(74) + " z", "A: y\r\n " + xs(74) + " z\r\n"},
		{"A", "y " + xs(76) + " z", "A: y\r\n " + xs(76) + "\r\n z\r\n"},
		{"A", "y " + xs(1000) + " z", "A: y\r\n " + xs(1000) + "\r\n z\r\n"},
		{"A", xs(72) + "  y", "A: " + xs(72) + "  y\r\n"},
		{"A", xs(73) + "  y", "A: " + xs(73) + "\r\n  y\r\n"},
		{"A", xs(73) + "\ty", "A: " + xs(73) + "\ty\r\n"},
		{"A", xs(74) + "\ty", "A: " + xs(74) + "\r\n\ty\r\n"},
		{"A", xs(73) + " \t y", "A: " + xs(73) + "\r\n \t y\r\n"},
		{"A", xs(73) + "\t y z", "A: " + xs(73) + "\r\n\t y z\r\n"},
		{"A", xs(73) + "\r\ny", "A: " + xs(73) + "\r\n  y\r\n"},
		{"A", xs(74) + "\ny", "A: " + xs(74) + "\r\n y\r\n"},
		{"A", xs(74) + "\ry", "A: " + xs(74) + "\r\n y\r\n"},
		{"A", "y" + strings.Repeat(" ", 100) + "z", "A: y\r\n" + strings.Repeat(" ", 100) + "z\r\n"},
		{"A", "y" + strings.Repeat("\t", 73) + "z", "A: y" + strings.Repeat("\t", 73) + "z\r\n"},
		{"A", "y" + strings.Repeat("\t", 74) + "z", "A: y\r\n" + strings.Repeat("\t", 74) + "z\r\n"},
		{"A", xs(30) + " " + xs(30) + " " + xs(30), "A: " + xs(30) + " " + xs(30) + "\r\n " + xs(30) + "\r\n"},
		{"A", strings.Repeat("ab ", 60), "A: ab" + strings.Repeat(" ab", 24) + "\r\n" + strings.Repeat(" ab", 26) + "\r\n" + strings.Repeat(" ab", 9) + "\r\n"},
		{xs(75), "y z", xs(75) + ": y\r\n z\r\n"},
		{xs(74), "y z", xs(74) + ": y\r\n z\r\n"},
		{xs(73), "y z", xs(73) + ": y z\r\n"},
		{xs(72), "y z w", xs(72) + ": y z\r\n w\r\n"},
		{xs(77), "y", xs(77) + ": y\r\n"},
		{xs(77), "", xs(77) + ": \r\n"},
		{xs(200), "y z w", xs(200) + ": y\r\n z w\r\n"},
		{xs(200), "  y", xs(200) + ": y\r\n"},
	} {
		if got := header.Put(c.name, c.value); got != c.want {
			t.Errorf("Put(%.40q, %q) = %q, want %q", c.name, c.value, got, c.want)
		}
	}
}

// P9.3: Put against a reference of its own kind, for names and values of all kinds.
func TestPutAgainstReference(t *testing.T) {
	for _, name := range append(putNames(), "", "a b", "\xff") {
		for _, value := range putValues() {
			if got, want := header.Put(name, value), putOf(name, value); got != want {
				t.Errorf("Put(%.40q, %q) = %q, want %q", name, value, got, want)
			}
		}
	}
}

// P9.3: a line is longer than 78 bytes only if it is one piece, no line could have taken the next piece, and without the folds the value is the clean one.
func TestPutLines(t *testing.T) {
	for _, name := range putNames() {
		for _, value := range putValues() {
			field := header.Put(name, value)
			text, start, end := strings.TrimSuffix(field, "\r\n"), name+": ", strings.HasSuffix(field, "\r\n")
			if !end || !strings.HasPrefix(text, start) || strings.ReplaceAll(text, "\r\n", "") != start+cleanOf(value) {
				t.Errorf("Put(%.40q, %q) = %q", name, value, field)
				continue
			}
			lines := strings.Split(text, "\r\n")
			for i, line := range lines {
				own := line
				if i == 0 {
					own = strings.TrimPrefix(line, start)
				} else if line[0] != ' ' && line[0] != '\t' {
					t.Errorf("line %d of Put(%.40q, %q) is %q", i, name, value, line)
				}
				if len(line) > longest && len(aPiece.FindAllString(own, -1)) > 1 {
					t.Errorf("line %d of Put(%.40q, %q) has %d bytes", i, name, value, len(line))
				}
				if i > 0 && len(lines[i-1]+aPiece.FindString(line)) <= longest {
					t.Errorf("line %d of Put(%.40q, %q) is %q, behind one of %d bytes", i, name, value, line, len(lines[i-1]))
				}
			}
		}
	}
}

// P9.5: what Put writes is read back with its name and clean value, alone, before and behind other fields, and these stay as they are.
func TestPutIsReadBack(t *testing.T) {
	befores := []string{"", "B: c\n", "B: c\r\n d\r\nbad\r\n", "a b\n", " x\n", "A: other\r\n", "B:\n \n", "\r\r\n", ":\n", "\xff: \xff\n"}
	afters := []string{"", "D: e", "D: e\r\n f\r\n", "bad\n\tE: f\n", "A: other\n", "\r\nbody: x\n", "\n y", "\r", ":", "\xff"}
	for _, name := range []string{"A", xs(77), xs(300)} {
		for _, value := range putValues() {
			field := header.Put(name, value)
			for i := range befores {
				checkBetween(t, name, value, field, befores[i], afters[i])
				checkBetween(t, name, value, field, befores[i], "")
				checkBetween(t, name, value, field, "", afters[i])
			}
		}
	}
}

// checkBetween reads a field that Put has written between what stands before and after it.
func checkBetween(t *testing.T, name, value, field, before, after string) {
	t.Helper()
	s := before + field + after
	l, body := header.Parse(s)
	first, _ := header.Parse(before)
	last, end := header.Parse(after)
	if len(l) != len(first)+1+len(last) || body != len(before)+len(field)+end {
		t.Fatalf("Parse(%q): %d fields, and the body at %d", s, len(l), body)
	}
	at := len(first)
	if !slices.Equal(l[:at], first) || !slices.Equal(l[at+1:], last) {
		t.Errorf("Parse(%q): the other fields are %s and %s", s, shown(l[:at]...), shown(l[at+1:]...))
	}
	if own := l[at]; own.Name != name || own.Raw != field || own.Bad {
		t.Errorf("Parse(%q): the field is %s", s, shown(own))
	}
	if got, ok := header.Get(l[at:], name); got != cleanOf(value) || !ok {
		t.Errorf("Parse(%q): the value is %q, %v", s, got, ok)
	}
}

// P9.5: many fields that Put has written are read back together, whatever their length.
func TestManyFieldsAreReadBack(t *testing.T) {
	var text strings.Builder
	values := putValues()
	for i, value := range values {
		text.WriteString(header.Put([]string{"A", "bb", xs(90)}[i%3], value))
	}
	text.WriteString("\r\nbody")
	l, body := header.Parse(text.String())
	if len(l) != len(values) || text.String()[body:] != "body" {
		t.Fatalf("%d fields, want %d", len(l), len(values))
	}
	for i, value := range values {
		if got, ok := header.Get([]api.Field{l[i]}, []string{"a", "BB", xs(90)}[i%3]); got != cleanOf(value) || !ok {
			t.Errorf("value %d is %q, want %q", i, got, cleanOf(value))
		}
	}
}

// P9.4, R2: Put changes and keeps none of its arguments.
func TestPutKeepsNoArgument(t *testing.T) {
	for _, c := range []struct{ name, value string }{{"A", "pouch"}, {"A", " a\r\nb "}, {"Name", xs(70) + " " + xs(70)}, {"a b", "c"}, {"\xff", "\xff"}} {
		name, value := []byte(c.name), []byte(c.value)
		got := header.Put(unsafe.String(&name[0], len(name)), unsafe.String(&value[0], len(value)))
		if string(name) != c.name || string(value) != c.value {
			t.Errorf("Put changed its arguments to %q and %q", name, value)
		}
		clear(name)
		clear(value)
		if want := putOf(c.name, c.value); got != want {
			t.Errorf("what Put returned became %q, want %q", got, want)
		}
	}
}

// P1, P9.5: Put ends soon for long names and values, and they are read back.
func TestLongPuts(t *testing.T) {
	const many = 400000
	for _, c := range []struct{ name, value string }{
		{"A", xs(many)},
		{xs(many), "a b"},
		{xs(many), ""},
		{"A", strings.Repeat("a ", many)},
		{"A", strings.Repeat(" ", many) + "b"},
		{"A", "a" + strings.Repeat(" ", many) + "b"},
		{"A", strings.Repeat("\r\n", many)},
		{"A", strings.Repeat("a\n", many)},
		{"A", strings.Repeat(xs(100)+"\t\t", many/100)},
		{"A", strings.Repeat("\xff ", many)},
	} {
		field := header.Put(c.name, c.value)
		l, body := header.Parse(field)
		if len(l) != 1 || body != len(field) {
			t.Errorf("Put(%.20q, %.20q): %d fields, and the body at %d of %d", c.name, c.value, len(l), body, len(field))
		}
		if got, ok := header.Get(l, c.name); got != cleanOf(c.value) || !ok {
			t.Errorf("Put(%.20q, %.20q): the value is read back as %.40q", c.name, c.value, got)
		}
		if field != putOf(c.name, c.value) {
			t.Errorf("Put(%.20q, %.20q) is folded elsewhere", c.name, c.value)
		}
	}
}
