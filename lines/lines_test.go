package lines_test

import (
	"regexp"
	"slices"
	"strings"
	"testing"
	"unsafe"

	"pouch/lines"
	"pouch/samples"
)

var (
	ending   = regexp.MustCompile(`\r?\n`)
	endOfAll = regexp.MustCompile(`\r?\n\z`)
	firstDot = regexp.MustCompile(`(?m)^\.`)
)

// linesOf is the lines of s, as the chapter defines them.
func linesOf(s string) []string {
	var list []string
	start := 0
	for i := range len(s) {
		if s[i] == 10 || i == len(s)-1 {
			list = append(list, s[start:i+1])
			start = i + 1
		}
	}
	return list
}

// texts lists inputs of all kinds: the short ones of the bytes that matter, long lines, many lines, and bytes without a pattern.
func texts() []string {
	list := samples.Words("\r\n.a", 7)
	list = append(list, samples.Words("\n.\xff\x00", 5)...)
	for _, s := range []string{"x", "\r", ".", "\xff"} {
		long := strings.Repeat(s, 20000)
		list = append(list, long, long+"\n", long+"\r\n"+long, "\n"+long)
	}
	for _, s := range []string{"\n", "\r\n", "\r\r\n", "\n\r", "a\n", ".\n", "..\r\n", "\r.", "\n."} {
		list = append(list, strings.Repeat(s, 5000))
	}
	for seed := range uint64(20) {
		list = append(list, samples.Noise(3000, seed))
	}
	return append(list, everyByte()...)
}

// everyByte lists texts that hold every byte, at the start of a line, in its midst and at its end.
func everyByte() []string {
	all := samples.AllBytes()
	list := []string{all, all + all, all + "\r\n" + all + "\n"}
	for i := range len(all) {
		b := all[i : i+1]
		list = append(list, b, b+"\n", b+"\r\n", b+".\n", "."+b, "."+b+"\n", "a"+b+"a", "\n"+b, "a\n"+b+"\n.", "\r"+b+"\n")
	}
	return list
}

// P8.1: Split of strings whose lines are written out.
func TestSplit(t *testing.T) {
	for _, c := range []struct {
		s    string
		want []string
	}{
		{"", nil},
		{"a", []string{"a"}},
		{"\n", []string{"\n"}},
		{"\r", []string{"\r"}},
		{".", []string{"."}},
		{"\xff", []string{"\xff"}},
		{"a\nb", []string{"a\n", "b"}},
		{"a\nb\n", []string{"a\n", "b\n"}},
		{"a\r\nb\r\n", []string{"a\r\n", "b\r\n"}},
		{"a\r\r\nb", []string{"a\r\r\n", "b"}},
		{"a\rb", []string{"a\rb"}},
		{"a\rb\nc\r", []string{"a\rb\n", "c\r"}},
		{"a\r", []string{"a\r"}},
		{"a\n\rb", []string{"a\n", "\rb"}},
		{"\n\r", []string{"\n", "\r"}},
		{"\n\n\n", []string{"\n", "\n", "\n"}},
		{"\r\n\r\n", []string{"\r\n", "\r\n"}},
		{"\n\r\n\n", []string{"\n", "\r\n", "\n"}},
		{"\na", []string{"\n", "a"}},
		{"a\x00\nb\v\f\u0085\u2028c\n\xff\n", []string{"a\x00\n", "b\v\f\u0085\u2028c\n", "\xff\n"}},
	} {
		if got := lines.Split(c.s); !slices.Equal(got, c.want) {
			t.Errorf("Split(%q) = %q, want %q", c.s, got, c.want)
		}
	}
}

// P8.1: Bare of lines and of strings that are none.
func TestBare(t *testing.T) {
	for _, c := range []struct{ l, want string }{
		{"", ""},
		{"a", "a"},
		{"\n", ""},
		{"\r", "\r"},
		{"\r\n", ""},
		{"a\n", "a"},
		{"a\r\n", "a"},
		{"a\r\r\n", "a\r"},
		{"\r\r\n", "\r"},
		{"a\r", "a\r"},
		{"a\r\r", "a\r\r"},
		{"a\n\r", "a\n\r"},
		{"a\nb", "a\nb"},
		{"a\nb\n", "a\nb"},
		{"a\r\nb\r\n", "a\r\nb"},
		{"a\n\n", "a\n"},
		{"a\r\n\n", "a\r\n"},
		{"a\n\r\n", "a\n"},
		{"a\rb\n", "a\rb"},
		{"a \n", "a "},
		{".\r\n", "."},
		{"\xff\n", "\xff"},
		{"\xc3\r\n", "\xc3"},
	} {
		if got := lines.Bare(c.l); got != c.want {
			t.Errorf("Bare(%q) = %q, want %q", c.l, got, c.want)
		}
	}
}

// P8.2: Crlf of strings whose line endings are written out.
func TestCrlf(t *testing.T) {
	for _, c := range []struct{ s, want string }{
		{"", ""},
		{"a", "a"},
		{"\n", "\r\n"},
		{"\r", "\r"},
		{"\r\n", "\r\n"},
		{"\r\r\n", "\r\r\n"},
		{"a\nb", "a\r\nb"},
		{"a\nb\n", "a\r\nb\r\n"},
		{"a\r\nb\n", "a\r\nb\r\n"},
		{"a\rb\n", "a\rb\r\n"},
		{"a\r", "a\r"},
		{"a\nb\r", "a\r\nb\r"},
		{"\n\r", "\r\n\r"},
		{"\n\n\n", "\r\n\r\n\r\n"},
		{"\r\n\n\r\n", "\r\n\r\n\r\n"},
		{"\xff\n\x80", "\xff\r\n\x80"},
	} {
		if got := lines.Crlf(c.s); got != c.want {
			t.Errorf("Crlf(%q) = %q, want %q", c.s, got, c.want)
		}
	}
}

// P8.2: Stuff and Unstuff of strings whose dots are written out; Unstuff is asked for strings that Stuff never makes, too.
func TestDots(t *testing.T) {
	for _, c := range []struct{ s, stuffed, unstuffed string }{
		{"", "", ""},
		{"a", "a", "a"},
		{".", "..", ""},
		{"..", "...", "."},
		{"...", "....", ".."},
		{".\n", "..\n", "\n"},
		{".\r\n", "..\r\n", "\r\n"},
		{".\r\r\n", "..\r\r\n", "\r\r\n"},
		{".\r", "..\r", "\r"},
		{"..\n", "...\n", ".\n"},
		{"a.b.\nc..\n", "a.b.\nc..\n", "a.b.\nc..\n"},
		{"a\n.", "a\n..", "a\n"},
		{"a\n.b", "a\n..b", "a\nb"},
		{"a\n.\nb", "a\n..\nb", "a\n\nb"},
		{"a\r\n.\r\nb", "a\r\n..\r\nb", "a\r\n\r\nb"},
		{".\n.\n.", "..\n..\n..", "\n\n"},
		{"\n.", "\n..", "\n"},
		{"\r.", "\r.", "\r."},
		{"a\r.b", "a\r.b", "a\r.b"},
		{"a\n\r.", "a\n\r.", "a\n\r."},
		{" .\n", " .\n", " .\n"},
		{".a\n..b\n", "..a\n...b\n", "a\n.b\n"},
		{".\xff", "..\xff", "\xff"},
		{"\xff.\n.\xff", "\xff.\n..\xff", "\xff.\n\xff"},
		{"\x00.", "\x00.", "\x00."},
	} {
		if got := lines.Stuff(c.s); got != c.stuffed {
			t.Errorf("Stuff(%q) = %q, want %q", c.s, got, c.stuffed)
		}
		if got := lines.Unstuff(c.s); got != c.unstuffed {
			t.Errorf("Unstuff(%q) = %q, want %q", c.s, got, c.unstuffed)
		}
	}
}

// P8.1, P8.2: every call against a reference of its own kind, for inputs of all kinds.
func TestAgainstReferences(t *testing.T) {
	for _, s := range texts() {
		if got, want := lines.Split(s), linesOf(s); !slices.Equal(got, want) {
			t.Errorf("Split(%.40q) = %.40q, want %.40q", s, got, want)
		}
		for _, c := range []struct {
			what      string
			got, want string
		}{
			{"Bare", lines.Bare(s), endOfAll.ReplaceAllLiteralString(s, "")},
			{"Crlf", lines.Crlf(s), ending.ReplaceAllLiteralString(s, "\r\n")},
			{"Stuff", lines.Stuff(s), firstDot.ReplaceAllLiteralString(s, "..")},
			{"Unstuff", lines.Unstuff(s), firstDot.ReplaceAllLiteralString(s, "")},
		} {
			if c.got != c.want {
				t.Errorf("%s(%.40q) = %.40q, want %.40q", c.what, s, c.got, c.want)
			}
		}
	}
}

// P8.5: the lines make up their string, and each but the last ends with its only LF.
func TestLinesMakeUpTheirString(t *testing.T) {
	for _, s := range texts() {
		list := lines.Split(s)
		if got := strings.Join(list, ""); got != s {
			t.Errorf("the lines of %.40q make up %.40q", s, got)
		}
		for i, line := range list {
			if at := strings.Index(line, "\n"); line == "" || at != len(line)-1 && (at >= 0 || i < len(list)-1) {
				t.Errorf("line %d of %.40q is %.40q", i, s, line)
			}
		}
	}
}

// P8.5: Crlf changes nothing more when it is done again, and its lines are the old ones but for their endings.
func TestCrlfIsIdempotent(t *testing.T) {
	for _, s := range texts() {
		once := lines.Crlf(s)
		if got := lines.Crlf(once); got != once {
			t.Errorf("Crlf(%.40q) = %.40q", once, got)
		}
		old, list := lines.Split(s), lines.Split(once)
		if len(old) != len(list) {
			t.Fatalf("Crlf makes %d lines of the %d of %.40q", len(list), len(old), s)
		}
		for i, line := range list {
			if strings.HasSuffix(old[i], "\n") {
				old[i] = lines.Bare(old[i]) + "\r\n"
			}
			if line != old[i] {
				t.Errorf("line %d of Crlf(%.40q) is %.40q", i, s, line)
			}
		}
	}
}

// P8.5: Unstuff gives back what was stuffed, and no line of a stuffed string is a single dot.
func TestUnstuffInvertsStuff(t *testing.T) {
	for _, s := range texts() {
		stuffed := lines.Stuff(s)
		if got := lines.Unstuff(stuffed); got != s {
			t.Errorf("Unstuff(Stuff(%.40q)) = %.40q", s, got)
		}
		for _, line := range lines.Split(stuffed) {
			if lines.Bare(line) == "." {
				t.Errorf("Stuff(%.40q) has the line %q", s, line)
			}
		}
	}
}

// P8.4, R2: the calls change and keep none of their arguments: the answers stay as they are when the memory of these is written over.
func TestArgumentsAreNotKept(t *testing.T) {
	for _, c := range []struct {
		what    string
		call    func(string) string
		s, want string
	}{
		{"Bare", lines.Bare, "pouch\r\n", "pouch"},
		{"Bare", lines.Bare, "pouch\n", "pouch"},
		{"Bare", lines.Bare, "pouch", "pouch"},
		{"Crlf", lines.Crlf, "pouch", "pouch"},
		{"Crlf", lines.Crlf, "pouch\r\n", "pouch\r\n"},
		{"Crlf", lines.Crlf, "a\nb\n", "a\r\nb\r\n"},
		{"Stuff", lines.Stuff, "pouch", "pouch"},
		{"Stuff", lines.Stuff, "a\n.b", "a\n..b"},
		{"Unstuff", lines.Unstuff, "pouch", "pouch"},
		{"Unstuff", lines.Unstuff, ".pouch", "pouch"},
		{"Unstuff", lines.Unstuff, "a\n.b", "a\nb"},
	} {
		bytes := []byte(c.s)
		got := c.call(unsafe.String(&bytes[0], len(bytes)))
		if string(bytes) != c.s {
			t.Errorf("%s changed its argument to %q", c.what, bytes)
		}
		clear(bytes)
		if got != c.want {
			t.Errorf("%s(%q) = %q, want %q", c.what, c.s, got, c.want)
		}
	}
}

// P8.4, R2: the lines that Split returns share no memory with its argument, nor does a list with another one.
func TestLinesAreNotShared(t *testing.T) {
	for _, s := range []string{"pouch", "a\n", "a\nb\r\nc", "\n\n"} {
		bytes := []byte(s)
		list := lines.Split(unsafe.String(&bytes[0], len(bytes)))
		if string(bytes) != s {
			t.Errorf("Split changed its argument to %q", bytes)
		}
		clear(bytes)
		again := lines.Split(s)
		if want := linesOf(s); !slices.Equal(list, want) {
			t.Errorf("the lines became %q, want %q", list, want)
		}
		list[0] = "changed"
		if want := linesOf(s); !slices.Equal(again, want) {
			t.Errorf("the lines of another list became %q, want %q", again, want)
		}
	}
}

// P1: the calls end soon for long strings of the kinds that they stop at.
func TestLongStrings(t *testing.T) {
	const many = 1000000
	for _, c := range []struct {
		unit      string
		count     int
		unstuffed string
	}{
		{"\n", many, "\n"},
		{"\r\n", many, "\r\n"},
		{".\n", many, "\n"},
		{"..\r\n", many, ".\r\n"},
		{"x\n", many, "x\n"},
		{"\xff\n", many, "\xff\n"},
		{"\r", 1, "\r"},
		{"x", 1, "x"},
	} {
		s := strings.Repeat(c.unit, many)
		if got := lines.Split(s); len(got) != c.count {
			t.Errorf("Split of %q, repeated, has %d lines", c.unit, len(got))
		}
		if got := lines.Crlf(s); got != strings.Repeat(ending.ReplaceAllLiteralString(c.unit, "\r\n"), many) {
			t.Errorf("Crlf of %q, repeated, has %d bytes", c.unit, len(got))
		}
		if got := lines.Unstuff(s); got != strings.Repeat(c.unstuffed, many) {
			t.Errorf("Unstuff of %q, repeated, has %d bytes", c.unit, len(got))
		}
		if lines.Unstuff(lines.Stuff(s)) != s {
			t.Errorf("Unstuff does not invert Stuff for %q, repeated", c.unit)
		}
		if got := lines.Bare(s); got != endOfAll.ReplaceAllLiteralString(s, "") {
			t.Errorf("Bare of %q, repeated, has %d bytes", c.unit, len(got))
		}
	}
}
