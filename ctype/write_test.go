package ctype_test

import (
	"fmt"
	"regexp"
	"slices"
	"strings"
	"testing"

	"pouch/api"
	"pouch/charset"
	"pouch/ctype"
	"pouch/samples"
)

// The forms of values, for strings of which each byte is written as a rune of its own.
var (
	asIs       = regexp.MustCompile("\\A[!#-'*+.0-9A-Z^-~-]+\\z")
	inQuotes   = regexp.MustCompile("\\A[ -~]*\\z")
	escapable  = regexp.MustCompile(`["\\]`)
	toEncode   = regexp.MustCompile("(?s)[^A-Za-z0-9._~-]")
	lowerWords = regexp.MustCompile("\\A[a-z0-9!#$&^_+-]+\\z")
)

// writtenOf is what is written behind the name of a parameter, as the chapter defines it.
func writtenOf(value string) string {
	switch {
	case asIs.MatchString(wide(value)):
		return "=" + value
	case inQuotes.MatchString(wide(value)):
		return "=\"" + escapable.ReplaceAllString(value, "\\$0") + "\""
	}
	return "*=utf-8''" + narrow(toEncode.ReplaceAllStringFunc(wide(value), func(one string) string { return fmt.Sprintf("%%%02X", []rune(one)[0]) }))
}

// checkValue holds what is written of a value against what is wanted, and that it is read again where it is valid UTF-8.
func checkValue(t *testing.T, value, want string) {
	t.Helper()
	l := list("n", value)
	if got := ctype.Line("a", l); got != "a; n"+want {
		t.Errorf("Line of %.40q = %.80q, want %.80q", value, got, want)
	}
	if got := ctype.Write(api.Type{Kind: "a", Sub: "b", Params: l}); got != "a/b; n"+want {
		t.Errorf("Write of %.40q = %.80q, want %.80q", value, got, want)
	}
	read := value
	if strings.HasPrefix(want, "*") {
		read = charset.Repair(value)
	}
	checkType(t, "a/b; n"+want, "a", "b", "n", read)
	checkWord(t, "a; n"+want, "a", "n", read)
	checkType(t, "a/b; k=l; n"+want+"; m*=o", "a", "b", "k", "l", "n", read, "m", "o")
}

// values lists values of each form.
func values() []string {
	return []string{
		"", "x", "utf-8", "a.b", "AZaz09", "!#$%&'*+-.^_`{|}~", "%41", "utf-8''x", "x*", "'",
		" ", "  ", " x", "x ", "x y", "a/b", "x=y", "=", "\"", "\\", "\\\\", "\\\"", "\"x\"", "x\\", "x\"y\\z", "(c)", "<x@y>", "[1]", "a,b;c:d", "?", "x;y=z", ";",
		"é", "x é", "€", "\U0001f600", "\u0080", "x\n", "\r\n", "\t", "\x00", "\x7f", "\x1f", "é ~'\n", "A-z_0.~é", "é;\"\\",
		"\xff", "\xe2\x82", "x\x80y", "\xc3\xa9\xff",
	}
}

// P12.3: the three forms of a value.
func TestValues(t *testing.T) {
	for _, c := range []struct{ value, want string }{
		{"x", "=x"},
		{"", "=\"\""},
		{"utf-8", "=utf-8"},
		{"a.b", "=a.b"},
		{"!#$%&'*+-.^_`{|}~", "=!#$%&'*+-.^_`{|}~"},
		{"%41", "=%41"},
		{"utf-8''x", "=utf-8''x"},
		{" ", "=\" \""},
		{"x y", "=\"x y\""},
		{"x y\"\\", "=\"x y\\\"\\\\\""},
		{"a/b", "=\"a/b\""},
		{"\"", "=\"\\\"\""},
		{"\\", "=\"\\\\\""},
		{"\"x\"", "=\"\\\"x\\\"\""},
		{"a,b;c:d", "=\"a,b;c:d\""},
		{"(<[@]>)", "=\"(<[@]>)\""},
		{"x=?", "=\"x=?\""},
		{"~ ", "=\"~ \""},
		{"é", "*=utf-8''%C3%A9"},
		{"é ~'\n", "*=utf-8''%C3%A9%20~%27%0A"},
		{"€uro", "*=utf-8''%E2%82%ACuro"},
		{"\n", "*=utf-8''%0A"},
		{"\x00", "*=utf-8''%00"},
		{"\x7f", "*=utf-8''%7F"},
		{"\x1f", "*=utf-8''%1F"},
		{"\x80", "*=utf-8''%80"},
		{"\xff\xfe", "*=utf-8''%FF%FE"},
		{"a-Z_0.9~\t", "*=utf-8''a-Z_0.9~%09"},
		{"\"\\\t", "*=utf-8''%22%5C%09"},
		{"%41\t", "*=utf-8''%2541%09"},
	} {
		checkValue(t, c.value, c.want)
	}
	for _, value := range values() {
		checkValue(t, value, writtenOf(value))
	}
}

// P12.3: each single byte in a value, alone and in the midst of others.
func TestBytesInValues(t *testing.T) {
	all := samples.AllBytes()
	for i := range len(all) {
		b := all[i : i+1]
		want := "*=utf-8''" + fmt.Sprintf("%%%02X", i)
		switch {
		case i == '"' || i == '\\':
			want = "=\"\\" + b + "\""
		case strings.Contains(" ()<>@,;:/[]?=", b):
			want = "=\"" + b + "\""
		case i > 32 && i < 127:
			want = "=" + b
		}
		checkValue(t, b, want)
		for _, value := range []string{b, "x" + b, b + "x", "x" + b + "y", " " + b, b + " ", "\"" + b + "\"", "é" + b, b + "\n", b + b} {
			checkValue(t, value, writtenOf(value))
		}
	}
}

// P12.3: values of all kinds against a reference.
func TestValuesAgainstReference(t *testing.T) {
	texts := samples.Words("x \"\\;=%'\x00é\xff", 4)
	for seed := range uint64(100) {
		texts = append(texts, samples.Noise(300, seed), drawn("abc \"\\()", 50, seed), drawn("abc._-~'%", 50, seed))
	}
	for _, value := range append(texts, samples.AllBytes()) {
		checkValue(t, value, writtenOf(value))
	}
}

// P12.3: a line of no parameters, of one and of several; what stands before them and their names are written as they are.
func TestLine(t *testing.T) {
	for _, c := range []struct {
		first string
		l     []api.Param
		want  string
	}{
		{"", nil, ""},
		{"inline", nil, "inline"},
		{"inline", []api.Param{}, "inline"},
		{"", list("a", "b"), "; a=b"},
		{"inline", list("a", "b"), "inline; a=b"},
		{"attachment", list("filename", "x y", "size", "5"), "attachment; filename=\"x y\"; size=5"},
		{"a", list("b", "", "b", "é", "b", "c", "B", "b"), "a; b=\"\"; b*=utf-8''%C3%A9; b=c; B=b"},
		{"A /;\"\n", list("", "", "é;= \n", "x", "n*0", "\n", "*", "y"), "A /;\"\n; =\"\"; é;= \n=x; n*0*=utf-8''%0A; *=y"},
		{"\xff", list("\xff", "\xff"), "\xff; \xff*=utf-8''%FF"},
	} {
		if got := ctype.Line(c.first, c.l); got != c.want {
			t.Errorf("Line(%q, %s) = %q, want %q", c.first, shown(c.l), got, c.want)
		}
	}
	for _, c := range []struct {
		kind, sub string
		l         []api.Param
		want      string
	}{
		{"", "", nil, "/"},
		{"a", "b", nil, "a/b"},
		{"Text", "", list("X", "y"), "Text/; X=y"},
		{"", "Html", list("X", "y z"), "/Html; X=\"y z\""},
		{"text", "plain", list("charset", "utf-8", "format", "flowed"), "text/plain; charset=utf-8; format=flowed"},
		{"a/b;", " c\n", list("x", "\n"), "a/b;/ c\n; x*=utf-8''%0A"},
	} {
		if got := ctype.Write(api.Type{Kind: c.kind, Sub: c.sub, Params: c.l}); got != c.want {
			t.Errorf("Write(%q, %q, %s) = %q, want %q", c.kind, c.sub, shown(c.l), got, c.want)
		}
	}
}

// words lists words of lower-case word bytes without dots.
func words() []string {
	list := slices.DeleteFunc(samples.Words("az09!#$&^_+-", 2), func(s string) bool { return s == "" })
	return append(list, "text", "html", "vnd+xml", "x-1", "filename", strings.Repeat("name", 100))
}

// P12.5: Parse gives back what Write has written, and Disposition what Line has.
func TestRoundTrips(t *testing.T) {
	names, values := words(), slices.DeleteFunc(append(values(), samples.Words("x \"\\;%'é", 3)...), func(s string) bool { return !charset.Valid(s) })
	for i, kind := range names {
		if !lowerWords.MatchString(kind) {
			t.Fatalf("%q is no word", kind)
		}
		for n := range 12 {
			sub := names[(i*7+n)%len(names)]
			var pairs []string
			for k := range n {
				pairs = append(pairs, names[(i+k*5)%len(names)], values[(i*13+n*31+k)%len(values)])
			}
			checkType(t, ctype.Write(api.Type{Kind: kind, Sub: sub, Params: list(pairs...)}), kind, sub, pairs...)
			checkWord(t, ctype.Line(kind, list(pairs...)), kind, pairs...)
		}
	}
	for _, value := range values {
		for _, other := range values {
			checkType(t, ctype.Write(api.Type{Kind: "a", Sub: "b", Params: list("x", value, "y", other)}), "a", "b", "x", value, "y", other)
		}
	}
	for n := range 0x110000 {
		if samples.IsRune(n) && (n < 3000 || n%97 == 0) {
			value := samples.Encoding(n) + "x"
			checkWord(t, ctype.Line("a", list("x", value)), "a", "x", value)
		}
	}
}

// P12.5: dots in a kind, in a subtype and in a disposition are read again too.
func TestDottedRoundTrips(t *testing.T) {
	for _, word := range []string{"a.b", ".", "a.", ".a", "a..b", "vnd.a.b+xml"} {
		checkType(t, ctype.Write(api.Type{Kind: word, Sub: word, Params: list("x", word)}), word, word, "x", word)
		checkWord(t, ctype.Line(word, list("x", word)), word, "x", word)
	}
}

// P12.4, R2: Line and Write change and keep nothing of their arguments.
func TestWriteKeepsNoArgument(t *testing.T) {
	for _, value := range values() {
		first, firstMemory := inMemory("attachment")
		sub, subMemory := inMemory("plain")
		name, nameMemory := inMemory("name")
		text, textMemory := inMemory(value)
		l := []api.Param{{Name: name, Value: text}, {Name: name, Value: text}}
		line, alone, written := ctype.Line(first, l), ctype.Line(first, nil), ctype.Write(api.Type{Kind: first, Sub: sub, Params: l})
		if !slices.Equal(l, list("name", value, "name", value)) || first != "attachment" || sub != "plain" {
			t.Errorf("the arguments became %s, %q, %q", shown(l), first, sub)
		}
		for _, memory := range [][]byte{firstMemory, subMemory, nameMemory, textMemory} {
			clear(memory)
		}
		params := "; name" + writtenOf(value) + "; name" + writtenOf(value)
		if line != "attachment"+params || alone != "attachment" || written != "attachment/plain"+params {
			t.Errorf("what was written became %q, %q, %q", line, alone, written)
		}
	}
}

// P1: Line ends soon for long lists and values.
func TestLongLines(t *testing.T) {
	const many = 20000
	var pairs []string
	for n := range many {
		pairs = append(pairs, fmt.Sprint("n", n), values()[n%40])
	}
	checkWord(t, ctype.Line("a", list(pairs...)), "a", pairs...)
	for _, unit := range []string{"x", " ", "\"", "\\", "é", "\n", "%", "'"} {
		long := strings.Repeat(unit, many)
		checkValue(t, long, writtenOf(long))
	}
}
