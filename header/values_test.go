package header_test

import (
	"regexp"
	"slices"
	"strings"
	"testing"
	"unsafe"

	"pouch/api"
	"pouch/header"
	"pouch/samples"
)

var (
	terminator = regexp.MustCompile(`\r?\n`)
	atEnds     = regexp.MustCompile(`\A[ \t]+|[ \t]+\z`)
)

// unfoldedOf is s without its line terminators.
func unfoldedOf(s string) string { return terminator.ReplaceAllLiteralString(s, "") }

// trimmedOf is s without blanks at both ends.
func trimmedOf(s string) string { return atEnds.ReplaceAllLiteralString(s, "") }

// plainName is a name with the ASCII letters in lower case, and all else as it is.
func plainName(name string) string {
	bytes := []byte(name)
	for i, b := range bytes {
		if at := strings.IndexByte("ABCDEFGHIJKLMNOPQRSTUVWXYZ", b); at >= 0 {
			bytes[i] = "abcdefghijklmnopqrstuvwxyz"[at]
		}
	}
	return string(bytes)
}

// allOf is what All returns, as the chapter defines it.
func allOf(l []api.Field, name string) []string {
	var values []string
	for _, f := range l {
		if !f.Bad && plainName(f.Name) == plainName(name) {
			values = append(values, trimmedOf(unfoldedOf(f.Value)))
		}
	}
	return values
}

// checkValues holds what All and Get return against what is wanted: Get the first of All.
func checkValues(t *testing.T, l []api.Field, name string, want []string) {
	t.Helper()
	if got := header.All(l, name); !slices.Equal(got, want) {
		t.Errorf("All(%.20q) of %s = %.60q, want %.60q", name, shown(l...), got, want)
	}
	first := ""
	if len(want) > 0 {
		first = want[0]
	}
	if got, ok := header.Get(l, name); got != first || ok != (len(want) > 0) {
		t.Errorf("Get(%.20q) of %s = %.60q, %v, want %.60q", name, shown(l...), got, ok, first)
	}
}

// P9.2: Unfold removes each LF, and a CR directly before it, and nothing else.
func TestUnfold(t *testing.T) {
	for _, c := range []struct{ s, want string }{
		{"", ""},
		{"a", "a"},
		{" ", " "},
		{"\n", ""},
		{"\r", "\r"},
		{"\r\n", ""},
		{"\n\r", "\r"},
		{"\r\r", "\r\r"},
		{"\r\r\n", "\r"},
		{"\r\r\r\n", "\r\r"},
		{"\r\n\r\n", ""},
		{"\n\n\n", ""},
		{"\r\n\n", ""},
		{"\n\r\n", ""},
		{"\r\r\n\n", "\r"},
		{"\r\n\r", "\r"},
		{"a\nb", "ab"},
		{"a\r\nb", "ab"},
		{"a\rb", "a\rb"},
		{"a\r b\n", "a\r b"},
		{"a\r\n b\n\tc", "a b\tc"},
		{"\na", "a"},
		{"a\n", "a"},
		{"\r\na\r\n", "a"},
		{" a \r\n b ", " a  b "},
		{"a\r\nb\nc\r\rd", "abc\r\rd"},
		{"\xff\n\x80\r\n\x00", "\xff\x80\x00"},
		{"\xc3\n\xa9", "\xc3\xa9"},
		{"a\v\f\u0085\u2028b", "a\v\f\u0085\u2028b"},
	} {
		if got := header.Unfold(c.s); got != c.want {
			t.Errorf("Unfold(%q) = %q, want %q", c.s, got, c.want)
		}
	}
}

// P9.2: Unfold against a reference of its own kind, for inputs of all kinds.
func TestUnfoldAgainstReference(t *testing.T) {
	list := append(texts(), samples.Words("\r\na", 8)...)
	for _, s := range list {
		if got, want := header.Unfold(s), unfoldedOf(s); got != want {
			t.Errorf("Unfold(%.40q) = %.40q, want %.40q", s, got, want)
		}
	}
}

// P9.2: none, one and several fields with a name, Bad ones among them.
func TestValues(t *testing.T) {
	const s = "A: one\nbad\nB: two\nA : three\n A: four\nempty:\nblank: \t \r\nA: five\na b: six\n: seven\nempty: later\n"
	l, _ := header.Parse(s)
	for _, c := range []struct {
		name string
		want []string
	}{
		{"A", []string{"one", "three A: four", "five"}},
		{"a", []string{"one", "three A: four", "five"}},
		{"B", []string{"two"}},
		{"b", []string{"two"}},
		{"empty", []string{"", "later"}},
		{"EMPTY", []string{"", "later"}},
		{"blank", []string{""}},
		{"Blank", []string{""}},
		{"C", nil},
		{"", nil},
		{"bad", nil},
		{"a b", nil},
		{"A ", nil},
		{" A", nil},
		{"A:", nil},
		{":", nil},
		{"AA", nil},
		{"\x00", nil},
		{"\n", nil},
		{"A\x00", nil},
	} {
		checkValues(t, l, c.name, c.want)
	}
	for _, name := range []string{"", "A", "\xff"} {
		checkValues(t, nil, name, nil)
		checkValues(t, []api.Field{}, name, nil)
		checkValues(t, []api.Field{bad("A: b\n"), bad("x")}, name, nil)
	}
}

// P9.2: values are unfolded, and then lose the blanks at both ends, and only these.
func TestValueOfField(t *testing.T) {
	for _, c := range []struct{ value, want string }{
		{"", ""},
		{"b", "b"},
		{" b", "b"},
		{"b ", "b"},
		{"\tb\t", "b"},
		{" \t b \t c \t ", "b \t c"},
		{" ", ""},
		{" \t\t ", ""},
		{"\n", ""},
		{"\r\n \r\n\t", ""},
		{" b\r\n c", "b c"},
		{" b\r\n\tc\r\n ", "b\tc"},
		{"\r\n b", "b"},
		{" \n b \n \n c \n ", "b   c"},
		{" b\n", "b"},
		{" b\r\n", "b"},
		{" b \r\n", "b"},
		{"b\r", "b\r"},
		{" b\r ", "b\r"},
		{" b\r\r\n ", "b\r"},
		{"\rb", "\rb"},
		{"\r b \r", "\r b \r"},
		{" \r\r\n ", "\r"},
		{"\vb\f", "\vb\f"},
		{"\u00a0b\u2003", "\u00a0b\u2003"},
		{"\x00b\x00", "\x00b\x00"},
		{" \xff \x80 ", "\xff \x80"},
		{": b:", ": b:"},
	} {
		for _, name := range []string{"A", "", "\xff", "a b"} {
			checkValues(t, []api.Field{good(name, c.value, "")}, name, []string{c.want})
			checkValues(t, []api.Field{bad(""), good(name, c.value, "x"), good(name, " z ", "")}, name, []string{c.want, "z"})
			checkValues(t, []api.Field{{Name: name, Value: c.value, Bad: true}}, name, nil)
		}
	}
}

// P9.2: names are compared without regard to ASCII case, whether they are valid or not.
func TestNamesAreCompared(t *testing.T) {
	for _, c := range []struct {
		a, b string
		same bool
	}{
		{"", "", true},
		{"Subject", "sUBJECT", true},
		{"az-AZ", "AZ-az", true},
		{"a b", "A B", true},
		{"a:", "A:", true},
		{"\xffa", "\xffA", true},
		{"É", "É", true},
		{"éa", "éA", true},
		{"", "a", false},
		{"a", "aa", false},
		{"a", "a ", false},
		{"a", "b", false},
		{"ab", "ba", false},
		{"@", "`", false},
		{"[", "{", false},
		{"\\", "|", false},
		{"]", "}", false},
		{"^", "~", false},
		{"_", "\x7f", false},
		{"\x00", " ", false},
		{"\x0d", "-", false},
		{"!", "\x01", false},
		{"0", "\x10", false},
		{"a-b", "a_b", false},
		{"é", "É", false},
		{"\xe9", "\xc9", false},
		{"\xff", "\xfe", false},
		{"\xff", "\xdf", false},
		{"\xff", "\x80", false},
		{"\xff", "\ufffd", false},
		{"k", "\u212a", false},
		{"s", "\u017f", false},
		{"ß", "SS", false},
		{"A", "Á", false},
	} {
		want := []string{"v"}
		if !c.same {
			want = nil
		}
		checkValues(t, []api.Field{good(c.a, "v", "")}, c.b, want)
		checkValues(t, []api.Field{good(c.b, "v", "")}, c.a, want)
	}
}

// P9.2: names of one byte are equal to themselves and to the other case of their letter alone.
func TestNamesOfOneByte(t *testing.T) {
	all := samples.AllBytes()
	for i := range len(all) {
		l := []api.Field{good(all[i:i+1], "v", "")}
		for k := range len(all) {
			name := all[k : k+1]
			checkValues(t, l, name, allOf(l, name))
		}
	}
}

// P9.2: All and Get against a reference of its own kind, for the fields of inputs of all kinds.
func TestValuesAgainstReference(t *testing.T) {
	names := append(samples.Words("aA:\n \xff", 2), "x", "X", strings.Repeat("x", 20000), samples.AllBytes())
	for _, s := range append(everyByte(), samples.Words("a: \r\n", 6)...) {
		l, _ := header.Parse(s)
		for _, name := range names {
			checkValues(t, l, name, allOf(l, name))
		}
	}
	l, _ := header.Parse(strings.Repeat("a: b\r\n c \nA:\nbad\nx : \t\n", 1000))
	for _, name := range names {
		checkValues(t, l, name, allOf(l, name))
	}
}

// P9.4, R2: Unfold changes and keeps nothing of its argument.
func TestUnfoldKeepsNoArgument(t *testing.T) {
	for _, s := range []string{"pouch", "pouch\n", "pouch\r\n", "a\r\n b\n", "\r"} {
		bytes := []byte(s)
		got := header.Unfold(unsafe.String(&bytes[0], len(bytes)))
		if string(bytes) != s {
			t.Errorf("Unfold changed its argument to %q", bytes)
		}
		clear(bytes)
		if want := unfoldedOf(s); got != want {
			t.Errorf("what Unfold returned became %q, want %q", got, want)
		}
	}
}

// P9.4, R2: All and Get change and keep nothing of their arguments.
func TestValuesKeepNoArgument(t *testing.T) {
	for _, value := range []string{"pouch", " pouch\t", "pouch\n", " a\r\n b", "\r"} {
		bytes, name := []byte(value), []byte("Name")
		l := []api.Field{good(unsafe.String(&name[0], len(name)), unsafe.String(&bytes[0], len(bytes)), "")}
		all := header.All(l, unsafe.String(&name[0], len(name)))
		first, ok := header.Get(l, unsafe.String(&name[0], len(name)))
		if string(bytes) != value || string(name) != "Name" {
			t.Errorf("the arguments became %q and %q", bytes, name)
		}
		clear(bytes)
		clear(name)
		if want := trimmedOf(unfoldedOf(value)); !slices.Equal(all, []string{want}) || first != want || !ok {
			t.Errorf("what was returned became %q and %q, want %q", all, first, want)
		}
	}
}

// P9.4: the lists that All returns are fresh.
func TestReturnedValuesAreFresh(t *testing.T) {
	l, _ := header.Parse("A: b\nA: c\nA: d\nB: e\n")
	want := []string{"b", "c", "d"}
	first, second := header.All(l, "A"), header.All(l, "a")
	header.All(l, "B")
	first[0] = "changed"
	_ = append(first[:1], "more", "more", "more", "more")
	if !slices.Equal(second, want) {
		t.Errorf("another list became %q", second)
	}
	checkValues(t, l, "A", want)
}
