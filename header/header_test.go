package header_test

import (
	"fmt"
	"regexp"
	"slices"
	"strings"
	"testing"
	"unsafe"

	"pouch/api"
	"pouch/header"
	"pouch/samples"
)

var (
	anyLine = regexp.MustCompile(`[^\n]*\n|[^\n]+`)
	// aField is a field that is not Bad: its name, and its value between the colon and the last terminator.
	aField = regexp.MustCompile(`(?s)\A([!-9;-~]+)[ \t]*:(.*?)(?:\r?\n)?\z`)
)

// parsedOf is what Parse returns for s, as the chapter defines it.
func parsedOf(s string) ([]api.Field, int) {
	var raws []string
	body := 0
	for i, line := range anyLine.FindAllString(s, -1) {
		body += len(line)
		if line == "\n" || line == "\r\n" {
			break
		}
		if i > 0 && (line[0] == 32 || line[0] == 9) {
			raws[len(raws)-1] += line
		} else {
			raws = append(raws, line)
		}
	}
	var list []api.Field
	for _, raw := range raws {
		if parts := aField.FindStringSubmatch(raw); parts != nil {
			list = append(list, good(parts[1], parts[2], raw))
		} else {
			list = append(list, bad(raw))
		}
	}
	return list, body
}

func good(name, value, raw string) api.Field { return api.Field{Name: name, Value: value, Raw: raw} }

func bad(raw string) api.Field { return api.Field{Raw: raw, Bad: true} }

// shown is a list of fields as a test tells of it.
func shown(l ...api.Field) string {
	text := fmt.Sprintf("%d fields", len(l))
	for _, f := range l[:min(4, len(l))] {
		text += fmt.Sprintf(" {%.40q %.40q %.40q %v}", f.Name, f.Value, f.Raw, f.Bad)
	}
	return text
}

// checkParse holds what Parse returns for s against what is wanted.
func checkParse(t *testing.T, s string, want []api.Field, body int) {
	t.Helper()
	got, at := header.Parse(s)
	if !slices.Equal(got, want) {
		t.Errorf("Parse(%.60q) = %s, want %s", s, shown(got...), shown(want...))
	}
	if at != body {
		t.Errorf("Parse(%.60q): the body starts at %d, want %d", s, at, body)
	}
}

// everyByte lists strings that hold every byte at each place of a field.
func everyByte() []string {
	all := samples.AllBytes()
	list := []string{all, "A:" + all, all + ":" + all, "A: b\n " + all + "\n"}
	for i := range len(all) {
		b := all[i : i+1]
		list = append(list, b+"\n", b+":c\n", b+"a: c\n", "a"+b+": c\n", "a"+b+"b: c\n", "a:"+b, "a:"+b+"\n", "a:"+b+"\r\n", "a: b"+b+"c\n", "a: b\n"+b, "a: b\n"+b+"\n", "a: b\n"+b+"c: d\n", "a: b\n"+b+"\r\n\n", "a: b\n"+b+"\n\n")
	}
	return list
}

// texts lists inputs of all kinds: the short ones of the bytes that matter, long lines, many lines, many fields, and bytes without a pattern.
func texts() []string {
	list := samples.Words("a: \r\n", 7)
	list = append(list, samples.Words("a:\t\n\xff", 6)...)
	for _, s := range []string{"x", "\r", " ", ":", "\xff", "\x7f"} {
		long := strings.Repeat(s, 20000)
		list = append(list, long, long+"\n\n", "A:"+long+"\r\n\r\n"+long, "A:b\n "+long+"\nC:"+long, long+": b\n\n")
	}
	for _, s := range []string{"a: b\n", "a: b\r\n", "a: b\r\n\tc\r\n", " a\n", "\r\r\n", "\t\n", ":\n", "a:\r\n", "a\n", "a:\n \n\n", "\n"} {
		list = append(list, strings.Repeat(s, 3000), "x: y\n"+strings.Repeat(s, 3000)+"\r\n"+s)
	}
	for seed := range uint64(20) {
		noise := samples.Noise(3000, seed)
		list = append(list, noise, strings.ReplaceAll(strings.ReplaceAll(noise, "\x80", "\n"), "\x81", ": "))
	}
	return append(list, everyByte()...)
}

// P9.1: strings without a field: the header section is empty, and the body starts behind an empty line at the start.
func TestEmptyHeaderSection(t *testing.T) {
	for _, c := range []struct {
		s    string
		body int
	}{
		{"", 0},
		{"\n", 1},
		{"\r\n", 2},
		{"\n\n", 1},
		{"\r\n\r\n", 2},
		{"\nA: b\n", 1},
		{"\r\nA: b\n\nx", 2},
		{"\n A: b\n", 1},
		{"\n\r", 1},
		{"\r\n\xff", 2},
	} {
		checkParse(t, c.s, nil, c.body)
	}
}

// P9.1: one line, with and without its ending.
func TestOneLine(t *testing.T) {
	for _, c := range []struct {
		s    string
		want api.Field
	}{
		{"a", bad("a")},
		{":", bad(":")},
		{" ", bad(" ")},
		{"\t", bad("\t")},
		{"\r", bad("\r")},
		{"\x00", bad("\x00")},
		{"\xff", bad("\xff")},
		{"a\n", bad("a\n")},
		{" \n", bad(" \n")},
		{"\t\r\n", bad("\t\r\n")},
		{"\r\r", bad("\r\r")},
		{"\r\r\n", bad("\r\r\n")},
		{" a: b\r\n", bad(" a: b\r\n")},
		{"\ta: b", bad("\ta: b")},
		{"no colon", bad("no colon")},
		{"no colon\r\n", bad("no colon\r\n")},
		{"A:", good("A", "", "A:")},
		{"A:\n", good("A", "", "A:\n")},
		{"A:\r\n", good("A", "", "A:\r\n")},
		{"A:\r", good("A", "\r", "A:\r")},
		{"A: \n", good("A", " ", "A: \n")},
		{"A: \t \r\n", good("A", " \t ", "A: \t \r\n")},
		{"A:b", good("A", "b", "A:b")},
		{"A: b\n", good("A", " b", "A: b\n")},
		{"A: b\r\n", good("A", " b", "A: b\r\n")},
		{"A: b\r\r\n", good("A", " b\r", "A: b\r\r\n")},
		{"A: b\r\r\r\n", good("A", " b\r\r", "A: b\r\r\r\n")},
		{"A: b\r", good("A", " b\r", "A: b\r")},
		{"A: b\r\r", good("A", " b\r\r", "A: b\r\r")},
		{"A: b\rc\n", good("A", " b\rc", "A: b\rc\n")},
		{"A\r: b\n", bad("A\r: b\n")},
		{"A\r:b\r\n", bad("A\r:b\r\n")},
		{"A: b: c:\n", good("A", " b: c:", "A: b: c:\n")},
		{"A::\n", good("A", ":", "A::\n")},
		{"A: \xff\x00\x80\n", good("A", " \xff\x00\x80", "A: \xff\x00\x80\n")},
	} {
		checkParse(t, c.s, []api.Field{c.want}, len(c.s))
	}
}

// P9.1: names before the colon, with blanks behind them, and what is no name.
func TestNames(t *testing.T) {
	for _, c := range []struct {
		before, name string
	}{
		{"A", "A"},
		{"a-B_9", "a-B_9"},
		{"!", "!"},
		{"~", "~"},
		{"!~", "!~"},
		{"9", "9"},
		{";", ";"},
		{"(\"<>\")", "(\"<>\")"},
		{"A ", "A"},
		{"A\t", "A"},
		{"A \t \t", "A"},
		{strings.Repeat("n", 5000), strings.Repeat("n", 5000)},
		{strings.Repeat("n", 5000) + "  ", strings.Repeat("n", 5000)},
		{"", ""},
		{" ", ""},
		{"\t \t", ""},
		{" A", ""},
		{"\tA", ""},
		{"A B", ""},
		{"A\tB", ""},
		{"A B ", ""},
		{"\x00", ""},
		{"A\x00", ""},
		{"A\x1f", ""},
		{"A\x7f", ""},
		{"\x7fA", ""},
		{"A\x80", ""},
		{"A\xff", ""},
		{"\xe9", ""},
		{"é", ""},
		{"Aé ", ""},
		{"A\r", ""},
		{"A\v", ""},
		{"A\f ", ""},
		{"A\u00a0", ""},
		{strings.Repeat("n", 5000) + " n", ""},
	} {
		for _, rest := range []string{":", ": v", ":v: w", "::", "::::"} {
			for _, end := range []string{"", "\n", "\r\n"} {
				raw := c.before + rest + end
				want := good(c.name, rest[1:], raw)
				if c.name == "" {
					want = bad(raw)
				}
				checkParse(t, raw, []api.Field{want}, len(raw))
			}
		}
	}
	// A name of colons is an empty one.
	checkParse(t, "::\n: : b\n", []api.Field{bad("::\n"), bad(": : b\n")}, 9)
}

// P9.1: continuation lines belong to the field before them, and only the terminator of the last one is no part of the value.
func TestContinuationLines(t *testing.T) {
	for _, c := range []struct {
		s    string
		want []api.Field
	}{
		{"A: b\n c\n", []api.Field{good("A", " b\n c", "A: b\n c\n")}},
		{"A: b\r\n\tc", []api.Field{good("A", " b\r\n\tc", "A: b\r\n\tc")}},
		{"A: b\r\n\tc\r", []api.Field{good("A", " b\r\n\tc\r", "A: b\r\n\tc\r")}},
		{"A: b\n c\r\n\td\r\n", []api.Field{good("A", " b\n c\r\n\td", "A: b\n c\r\n\td\r\n")}},
		{"A:\n b\n", []api.Field{good("A", "\n b", "A:\n b\n")}},
		{"A:\r\n b\r\n", []api.Field{good("A", "\r\n b", "A:\r\n b\r\n")}},
		{"A: b\n \n", []api.Field{good("A", " b\n ", "A: b\n \n")}},
		{"A: b\n \t\r\nC: d", []api.Field{good("A", " b\n \t", "A: b\n \t\r\n"), good("C", " d", "C: d")}},
		{"A: b\n ", []api.Field{good("A", " b\n ", "A: b\n ")}},
		{"A: b\n \n\t\n c\n", []api.Field{good("A", " b\n \n\t\n c", "A: b\n \n\t\n c\n")}},
		{"A: b\n C: d\nE: f\n", []api.Field{good("A", " b\n C: d", "A: b\n C: d\n"), good("E", " f", "E: f\n")}},
		{"bad\n more\nA: b\n", []api.Field{bad("bad\n more\n"), good("A", " b", "A: b\n")}},
		{"bad\n B: c\n", []api.Field{bad("bad\n B: c\n")}},
		{"A\n : b\n", []api.Field{bad("A\n : b\n")}},
		{"A \r\n\t: b\n", []api.Field{bad("A \r\n\t: b\n")}},
		{"a b: c\n\td\n", []api.Field{bad("a b: c\n\td\n")}},
		{":\n b\n", []api.Field{bad(":\n b\n")}},
		{" \n a: b\n", []api.Field{bad(" \n a: b\n")}},
		{" a: b\n c: d\n", []api.Field{bad(" a: b\n c: d\n")}},
		{" a\nb: c\n", []api.Field{bad(" a\n"), good("b", " c", "b: c\n")}},
		{"A: b\n\r\r\n c\n", []api.Field{good("A", " b", "A: b\n"), bad("\r\r\n c\n")}},
		{"A: b\n\v c\n", []api.Field{good("A", " b", "A: b\n"), bad("\v c\n")}},
		{"A: b\r c\nD: e\n", []api.Field{good("A", " b\r c", "A: b\r c\n"), good("D", " e", "D: e\n")}},
	} {
		checkParse(t, c.s, c.want, len(c.s))
	}
}

// P9.1: the header section ends before the first line that is only a terminator, and the body starts behind it.
func TestWhereTheBodyStarts(t *testing.T) {
	a, b := good("A", " b", "A: b\n"), good("B", " c", "B: c\r\n")
	for _, c := range []struct {
		s    string
		want []api.Field
		body int
	}{
		{"A: b\n\nx", []api.Field{a}, 6},
		{"A: b\n\r\nx", []api.Field{a}, 7},
		{"A: b\nB: c\r\n\r\nx", []api.Field{a, b}, 13},
		{"A: b\nB: c\r\n", []api.Field{a, b}, 11},
		{"A: b\n\n", []api.Field{a}, 6},
		{"A: b\n\nB: c\r\n\nD: e\n", []api.Field{a}, 6},
		{"A: b\n\n\n", []api.Field{a}, 6},
		{"A: b\n\n c\n", []api.Field{a}, 6},
		{"A: b\n\r", []api.Field{a, bad("\r")}, 6},
		{"A: b\n\r\r\n\nx", []api.Field{a, bad("\r\r\n")}, 9},
		{"A: b\n\rx\n\r\n", []api.Field{a, bad("\rx\n")}, 10},
		{"A: b\n \n\nx", []api.Field{good("A", " b\n ", "A: b\n \n")}, 8},
		{"A: b\n\t\r\nB: c\r\n\nx", []api.Field{good("A", " b\n\t", "A: b\n\t\r\n"), b}, 15},
		{"bad\n\nA: b\n", []api.Field{bad("bad\n")}, 5},
		{" \n\nx", []api.Field{bad(" \n")}, 3},
		{"\r\r\n\r\nx", []api.Field{bad("\r\r\n")}, 5},
		{"A: b\r\n c\r\n\r\nx", []api.Field{good("A", " b\r\n c", "A: b\r\n c\r\n")}, 12},
	} {
		checkParse(t, c.s, c.want, c.body)
	}
}

// P9.1: Join of fields that Parse never returns: it asks for their Raw strings alone.
func TestJoin(t *testing.T) {
	for _, c := range []struct {
		l    []api.Field
		want string
	}{
		{nil, ""},
		{[]api.Field{}, ""},
		{[]api.Field{{}}, ""},
		{[]api.Field{{Name: "A", Value: "b"}}, ""},
		{[]api.Field{{Raw: "x"}}, "x"},
		{[]api.Field{{Raw: "x", Bad: true}, {}, {Name: "A", Value: "b", Raw: "\xff\n"}, {Raw: "x"}}, "x\xff\nx"},
		{[]api.Field{{Raw: "\n"}, {Raw: "\n"}}, "\n\n"},
	} {
		if got := header.Join(c.l); got != c.want {
			t.Errorf("Join of %s = %.60q, want %.60q", shown(c.l...), got, c.want)
		}
	}
}

// P9.1: Parse against a reference of its own kind, for inputs of all kinds.
func TestParseAgainstReference(t *testing.T) {
	for _, s := range texts() {
		want, body := parsedOf(s)
		checkParse(t, s, want, body)
	}
}

// P9.5: the Raw strings make up the header section, and between it and the body stands an empty line, or nothing at the end.
func TestFieldsMakeUpTheHeaderSection(t *testing.T) {
	for _, s := range texts() {
		l, body := header.Parse(s)
		joined := header.Join(l)
		if body < 0 || body > len(s) || !strings.HasPrefix(s, joined) || len(joined) > body {
			t.Errorf("the fields of %.40q make up %.40q before the body at %d", s, joined, body)
			continue
		}
		switch between := s[len(joined):body]; {
		case between == "" && body == len(s):
		case (between == "\n" || between == "\r\n") && (joined == "" || strings.HasSuffix(joined, "\n")):
		default:
			t.Errorf("%.20q stands between the header section of %.40q and its body at %d", between, s, body)
		}
		if strings.HasPrefix(joined, "\n") || strings.HasPrefix(joined, "\r\n") || strings.Contains(joined, "\n\n") || strings.Contains(joined, "\n\r\n") {
			t.Errorf("the header section of %.40q holds an empty line", s)
		}
		again, end := header.Parse(joined)
		if !slices.Equal(again, l) || end != len(joined) {
			t.Errorf("the header section of %.40q is read as %s, to %d, alone", s, shown(again...), end)
		}
	}
}

// P9.1: Right for every single byte, alone and within a name.
func TestRightOfBytes(t *testing.T) {
	all := samples.AllBytes()
	for i := range len(all) {
		b := all[i : i+1]
		want := i >= 33 && i <= 126 && i != 58
		for _, name := range []string{b, b + b, "a" + b, b + "a", "a" + b + "a", strings.Repeat("n", 3000) + b, b + strings.Repeat("n", 3000)} {
			if got := header.Right(name); got != want {
				t.Errorf("Right(%.9q) = %v", name, got)
			}
		}
	}
}

// P9.1: Right for names that are valid and for others.
func TestRight(t *testing.T) {
	for _, c := range []struct {
		name string
		want bool
	}{
		{"", false},
		{"Subject", true},
		{"X-a_b.c/d", true},
		{"123", true},
		{"!\"#$%&'()*+,-./0123456789;<=>?@AZ[\\]^_`az{|}~", true},
		{strings.Repeat("n", 100000), true},
		{strings.Repeat("n", 100000) + ":", false},
		{strings.Repeat("n", 100000) + "\x7f", false},
		{"Subject ", false},
		{" Subject", false},
		{"Sub ject", false},
		{"Subject:", false},
		{":", false},
		{"Subject\r\n", false},
		{"Sübject", false},
		{"\u212a", false},
		{"\ufffd", false},
		{"\xc3", false},
		{"\xf0\x9f\x98\x80", false},
		{samples.AllBytes(), false},
	} {
		if got := header.Right(c.name); got != c.want {
			t.Errorf("Right(%.40q) = %v", c.name, got)
		}
	}
}

// P9.4, R2: Parse changes and keeps nothing of its argument: the fields stay as they are when its memory is written over.
func TestParseKeepsNoArgument(t *testing.T) {
	for _, s := range []string{"A: b\r\n c\r\nbad\r\n\r\nx", "A", "A:", "A: b", "bad\n", "\n"} {
		bytes := []byte(s)
		l, _ := header.Parse(unsafe.String(&bytes[0], len(bytes)))
		if string(bytes) != s {
			t.Errorf("Parse changed its argument to %q", bytes)
		}
		clear(bytes)
		if want, _ := parsedOf(s); !slices.Equal(l, want) {
			t.Errorf("the fields became %s, want %s", shown(l...), shown(want...))
		}
	}
}

// P9.4, R2: Join and Right change and keep nothing of their arguments.
func TestJoinKeepsNoArgument(t *testing.T) {
	for _, raws := range [][]string{{"pouch"}, {"pouch", "x"}, {"", "pouch", ""}} {
		var l []api.Field
		var memory [][]byte
		for _, raw := range raws {
			bytes := append([]byte(raw), 0)
			memory = append(memory, bytes)
			l = append(l, api.Field{Raw: unsafe.String(&bytes[0], len(raw))})
		}
		got := header.Join(l)
		for i, raw := range raws {
			if l[i] != (api.Field{Raw: raw}) {
				t.Errorf("Join changed a field: %s", shown(l[i]))
			}
			clear(memory[i])
		}
		if want := strings.Join(raws, ""); got != want {
			t.Errorf("what Join returned became %q, want %q", got, want)
		}
	}
	bytes := []byte("pouch")
	if !header.Right(unsafe.String(&bytes[0], len(bytes))) || string(bytes) != "pouch" {
		t.Errorf("Right changed its argument to %q", bytes)
	}
}

// P9.4: the lists that Parse returns are fresh: one stays as it is when another call follows, and changing it changes nothing else.
func TestParsedFieldsAreFresh(t *testing.T) {
	const s, other = "A: b\nB: c\nD: e\n\nx", "Q: r\nS: t\nU: v\nW: x\n"
	first, _ := header.Parse(s)
	second, _ := header.Parse(s)
	header.Parse(other)
	want, _ := parsedOf(s)
	if !slices.Equal(first, want) || !slices.Equal(second, want) {
		t.Errorf("what Parse returned became %s and %s", shown(first...), shown(second...))
	}
	first[0] = api.Field{Name: "changed", Raw: "changed"}
	_ = append(first[:1], bad("more"), bad("more"), bad("more"))
	if !slices.Equal(second, want) {
		t.Errorf("another list became %s", shown(second...))
	}
	checkParse(t, s, want, 16)
}

// P9.4, R2: no call changes or keeps a list of fields, nor writes into the room behind it.
func TestListsAreNotKept(t *testing.T) {
	full, _ := header.Parse("A: b\nbad\na:  c \n\td\nB: e\n")
	old := slices.Clone(full)
	l := full[:3]
	joined := header.Join(l)
	value, ok := header.Get(l, "a")
	all := header.All(l, "A")
	if !slices.Equal(full, old) {
		t.Errorf("the list became %s", shown(full...))
	}
	clear(full)
	if joined != "A: b\nbad\na:  c \n\td\n" || value != "b" || !ok || !slices.Equal(all, []string{"b", "c \td"}) {
		t.Errorf("what was returned became %q, %q and %q", joined, value, all)
	}
	if _, ok := header.Get(l, "a"); ok || header.Join(l) != "" {
		t.Error("an old list is answered from")
	}
}

// P1: the calls end soon for long strings of the kinds that they stop at.
func TestLongHeaders(t *testing.T) {
	const many = 1000000
	for _, c := range []struct {
		unit   string
		fields int
		body   int
	}{
		{"a: b\n", many, 5 * many},
		{"a\r\n", many, 3 * many},
		{" a: b\n", 1, 6 * many},
		{" \r\n", 1, 3 * many},
		{"\r\r\n", many, 3 * many},
		{"\n", 0, 1},
		{"a\n\n", 1, 3},
		{"a", 1, many},
		{"\r", 1, many},
		{":", 1, many},
		{" ", 1, many},
		{"\xff:", 1, 2 * many},
		{"a: ", 1, 3 * many},
	} {
		s := strings.Repeat(c.unit, many)
		l, body := header.Parse(s)
		if len(l) != c.fields || body != c.body {
			t.Errorf("Parse of %q, repeated: %d fields, and the body at %d", c.unit, len(l), body)
		}
		if !strings.HasPrefix(s, header.Join(l)) {
			t.Errorf("the fields of %q, repeated, do not make it up", c.unit)
		}
		for name, want := range map[string]int{"a": len(header.All(l, "A")), "": 0, "x": 0} {
			if all := header.All(l, name); len(all) != want {
				t.Errorf("%q, repeated, has %d fields %q", c.unit, len(all), name)
			}
		}
	}
}
