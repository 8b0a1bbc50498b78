package addr_test

import (
	"regexp"
	"slices"
	"strings"
	"testing"

	"pouch/addr"
	"pouch/samples"
)

var betweenAngles = regexp.MustCompile(`<([^<>]*)>`)

// idsOf is what Ids returns, as the chapter defines it.
func idsOf(s string) []string {
	var ids []string
	for _, match := range betweenAngles.FindAllStringSubmatch(s, -1) {
		forbidden := false
		for b := range len(match[1]) {
			forbidden = forbidden || match[1][b] <= 32 || match[1][b] == 127
		}
		if !forbidden && len(match[1]) >= 1 && len(match[1]) <= 250 {
			ids = append(ids, match[1])
		}
	}
	return ids
}

// checkIds holds what Ids returns for s against what is wanted.
func checkIds(t *testing.T, s string, want ...string) {
	t.Helper()
	if got := addr.Ids(s); !slices.Equal(got, want) {
		t.Errorf("Ids(%.60q) = %d ids %.80q, want %d ids %.80q", s, len(got), got, len(want), want)
	}
}

// P11.4: none, one and several ids.
func TestIds(t *testing.T) {
	for _, s := range []string{"", " ", "a", "a@b", "<", ">", "<>", "><", "<a", "a>", ">a<", "<a<", "<<", ">>", "< >", "<a b>", "< a>", "<a >", "<\t>", "<a\nb>", "<a\r\n b>", "a>b<c", "(a@b)"} {
		checkIds(t, s)
		checkIds(t, s+"\n"+s)
	}
	checkIds(t, "<a>", "a")
	checkIds(t, "<a@b>", "a@b")
	checkIds(t, " <a@b> ", "a@b")
	checkIds(t, "<a><b>", "a", "b")
	checkIds(t, "<a> <b>\r\n <c>", "a", "b", "c")
	checkIds(t, "<a>,<a>,<b>,<a>", "a", "a", "b", "a")
	checkIds(t, "<a.b-c_d@[1.2]>", "a.b-c_d@[1.2]")
	checkIds(t, "<\"a(b\"@c:,;\\>", "\"a(b\"@c:,;\\")
	checkIds(t, "<\xff\x80é>", "\xff\x80é")
}

// P11.4: text around the ids and between them, brackets that do not match among it.
func TestTextAroundIds(t *testing.T) {
	for _, c := range []struct {
		s    string
		want []string
	}{
		{"x<a>y<b>z", []string{"a", "b"}},
		{"x <a> <b c> <<d> e> <> <f", []string{"a", "d"}},
		{"<<a>", []string{"a"}},
		{"<<<a>>>", []string{"a"}},
		{"<a>>", []string{"a"}},
		{"><a>", []string{"a"}},
		{">a><b>", []string{"b"}},
		{"<a<b>", []string{"b"}},
		{"<a<b>c>", []string{"b"}},
		{"<a<b><c>d>", []string{"b", "c"}},
		{"<a> <", []string{"a"}},
		{"<a> <b", []string{"a"}},
		{"<a b <c>", []string{"c"}},
		{"< <c>", []string{"c"}},
		{"<c> b> <d>", []string{"c", "d"}},
		{"<><a>", []string{"a"}},
		{"<a><>", []string{"a"}},
		{"(<a>)", []string{"a"}},
		{"\"<a>\"", []string{"a"}},
		{"\"<a", nil},
		{"(<a> <b>", []string{"a", "b"}},
		{"[<a>]\\<b\\>", []string{"a", "b\\"}},
		{"\x00<a>\x7f<b>\xff", []string{"a", "b"}},
	} {
		checkIds(t, c.s, c.want...)
	}
	// P11.6: whatever text stands between them, they are found.
	for _, text := range append(samples.Words("a<> \n\"(", 4), samples.AllBytes()) {
		got := addr.Ids("<first@x>" + text + "<last@y>" + text)
		if len(got) < 2 || got[0] != "first@x" || !slices.Contains(got, "last@y") {
			t.Errorf("with %q between them: %q", text, got)
		}
		if !strings.Contains(text, ">") {
			checkIds(t, "<first@x>"+text+"<last@y>"+text, "first@x", "last@y")
			checkIds(t, text+"<first@x>"+text, "first@x")
		}
	}
}

// P11.4: ids of 0, 1, 250 and 251 bytes.
func TestLengthsOfIds(t *testing.T) {
	for length := range 520 {
		for _, unit := range []string{"a", "\xff", "é"} {
			id := strings.Repeat(unit, length)[:length]
			if length >= 1 && length <= 250 {
				checkIds(t, "<z><"+id+"><z>", "z", id, "z")
			} else {
				checkIds(t, "<z><"+id+"><z>", "z", "z")
			}
			// What no bracket closes before the next one opens is no id, of whatever length.
			checkIds(t, "<"+id+"<z>", "z")
		}
	}
}

// P11.4: each byte in an id: alone, at the start, in the midst and at the end.
func TestBytesInIds(t *testing.T) {
	all := samples.AllBytes()
	for i := range len(all) {
		b := all[i : i+1]
		for _, pattern := range []string{"%", "%b", "a%", "a%b", "%%"} {
			s := strings.ReplaceAll(pattern, "%", b)
			if i <= 32 || i == 127 {
				checkIds(t, "<"+s+">")
				checkIds(t, "<a><"+s+"><b>", "a", "b")
			} else if b != "<" && b != ">" {
				checkIds(t, "<"+s+">", s)
				checkIds(t, "<a><"+s+"><b>", "a", s, "b")
			}
		}
	}
	checkIds(t, "<<>")
	checkIds(t, "<<b>", "b")
	checkIds(t, "<a<>")
	checkIds(t, "<a<b>", "b")
	checkIds(t, "<>>")
	checkIds(t, "<>b>")
	checkIds(t, "<a>>", "a")
	checkIds(t, "<a>b>", "a")
}

// P11.4: Ids against a reference of its own kind, for fields of all kinds.
func TestIdsAgainstReference(t *testing.T) {
	list := append(fields(), samples.Words("a<> \x7f", 7)...)
	for seed := range uint64(100) {
		list = append(list, drawn("aab@<<>>. ", 2000, seed), drawn(strings.Repeat("a", 300)+"<>", 5000, seed))
	}
	for _, s := range list {
		checkIds(t, s, idsOf(s)...)
	}
}

// P11.5, R2: Ids changes and keeps nothing of its argument.
func TestIdsKeepNoArgument(t *testing.T) {
	for _, s := range []string{"", "<pouch>", "<a>", "<a@b> x <c@d>", "<a><b><c>"} {
		text, memory := inMemory(s)
		got := addr.Ids(text)
		if text != s {
			t.Errorf("Ids changed its argument to %q", text)
		}
		clear(memory)
		if want := idsOf(s); !slices.Equal(got, want) {
			t.Errorf("what Ids(%q) returned became %q", s, got)
		}
	}
}

// P11.5: lists of ids are fresh: one stays as it is when another call follows, and changing it changes nothing else.
func TestListsOfIdsAreFresh(t *testing.T) {
	const s = "<a> <b> <c>"
	first, second := addr.Ids(s), addr.Ids(s)
	addr.Ids("<w> <x> <y> <z>")
	first[0] = "changed"
	_ = append(first[:1], "more", "more", "more", "more")
	if !slices.Equal(second, []string{"a", "b", "c"}) {
		t.Errorf("another list became %q", second)
	}
	checkIds(t, s, "a", "b", "c")
}

// P1: Ids ends soon for long fields.
func TestLongIds(t *testing.T) {
	const many = 50000
	for unit, count := range map[string]int{"a": 0, "<": 0, ">": 0, "<>": 0, "><": 0, "<a": 0, "a>": 0, "<a>": many, "<a b>": 0, "<a<b>": many, "<a>>": many, " ": 0, "\xff": 0, "\x00": 0} {
		if got := addr.Ids(strings.Repeat(unit, many)); len(got) != count {
			t.Errorf("Ids of %q, repeated, has %d ids", unit, len(got))
		}
	}
	checkIds(t, "<"+strings.Repeat("a", many)+"><b>", "b")
	checkIds(t, strings.Repeat("<", many)+"b"+strings.Repeat(">", many), "b")
}
