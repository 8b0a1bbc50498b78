package ctype_test

import (
	"fmt"
	"regexp"
	"slices"
	"strconv"
	"strings"
	"testing"
	"unsafe"

	"pouch/api"
	"pouch/charset"
	"pouch/ctype"
	"pouch/samples"
	"pouch/token"
)

// What the chapter defines, for strings of which each byte is written as a rune of its own.
var (
	wordOnly    = regexp.MustCompile("\\A[A-Za-z0-9!#$&^_.+-]+\\z")
	typeOnly    = regexp.MustCompile("\\A([A-Za-z0-9!#$&^_.+-]+)/([A-Za-z0-9!#$&^_.+-]+)\\z")
	upper       = regexp.MustCompile("[A-Z]")
	assigning   = regexp.MustCompile(`(?s)\A([^=]*)=(.*)\z`)
	sectionName = regexp.MustCompile(`(?s)\A(.*)\*(0|[1-9]|[1-5][0-9]|6[0-3])\z`)
	byteSign    = regexp.MustCompile("%[0-9A-Fa-f]{2}")
)

// wide is s with a rune for each byte, and narrow is that s again.
func wide(s string) string {
	runes := make([]rune, len(s))
	for i := range len(s) {
		runes[i] = rune(s[i])
	}
	return string(runes)
}

func narrow(s string) string {
	var text []byte
	for _, r := range s {
		text = append(text, byte(r))
	}
	return string(text)
}

// lowered is s with ASCII letters in lower case.
func lowered(s string) string {
	return narrow(upper.ReplaceAllStringFunc(wide(s), strings.ToLower))
}

// rowsOf is what the chapter calls the rows of a string.
func rowsOf(s string) [][]api.Token {
	bare := token.Bare(token.Scan(s))
	var list [][]api.Token
	from := 0
	for i := range len(bare) + 1 {
		if i == len(bare) || bare[i].Kind == api.TSpecial && bare[i].Text == ";" {
			list = append(list, bare[from:i])
			from = i + 1
		}
	}
	return list
}

// percentless is s after percent-decoding.
func percentless(s string) string {
	return narrow(byteSign.ReplaceAllStringFunc(wide(s), func(sign string) string {
		n, err := strconv.ParseUint(sign[1:], 16, 8)
		if err != nil {
			panic(err)
		}
		return string(rune(n))
	}))
}

// A given is a parameter of a row with its decoded name: a section of it, or -1.
type given struct {
	name, value string
	section     int
	extended    bool
}

// givenBy is the parameter of a row.
func givenBy(row []api.Token) (given, bool) {
	before := ""
	for i, one := range row {
		parts := assigning.FindStringSubmatch(wide(one.Text))
		if one.Kind != api.TAtom || parts == nil {
			before += one.Text
			continue
		}
		g := given{name: lowered(before + narrow(parts[1])), value: narrow(parts[2]), section: -1}
		if g.value == "" && i+1 < len(row) && row[i+1].Kind == api.TQuoted {
			g.value = token.Value(row[i+1])
		} else {
			for _, other := range row[i+1:] {
				g.value += other.Text
			}
		}
		if g.name == "" {
			return given{}, false
		}
		if g.name != "*" && strings.HasSuffix(g.name, "*") {
			g.extended = true
			g.name = strings.TrimSuffix(g.name, "*")
		}
		if parts := sectionName.FindStringSubmatch(wide(g.name)); parts != nil {
			g.name = narrow(parts[1])
			g.section, _ = strconv.Atoi(parts[2])
		}
		return g, true
	}
	return given{}, false
}

// charsetOf is the name of the character set before the first apostrophe of an extended value, and the part behind the second one.
func charsetOf(value string) (string, string) {
	if parts := strings.SplitN(value, "'", 3); len(parts) == 3 {
		return parts[0], parts[2]
	}
	return "", value
}

// converted is s decoded by the character set of a name, or repaired without one.
func converted(set, s string) string {
	if set == "" {
		return charset.Repair(s)
	}
	text, _ := charset.Decode(set, s)
	return text
}

// valueOf is the value of a name, if what is given makes up one.
func valueOf(name string, all []given) (string, bool) {
	first := func(section int, extended ...bool) (given, bool) {
		for _, g := range all {
			if g.name == name && g.section == section && slices.Contains(extended, g.extended) {
				return g, true
			}
		}
		return given{}, false
	}
	if zero, ok := first(0, true, false); ok {
		text, set := "", ""
		for n := 0; n < 64; n++ {
			g, ok := first(n, true, false)
			if !ok {
				break
			}
			if n == 0 && g.extended {
				set, g.value = charsetOf(g.value)
			}
			if g.extended {
				g.value = percentless(g.value)
			}
			text += g.value
		}
		if zero.extended {
			text = converted(set, text)
		}
		return text, true
	}
	if g, ok := first(-1, true); ok {
		set, rest := charsetOf(g.value)
		return converted(set, percentless(rest)), true
	}
	g, ok := first(-1, false)
	return g.value, ok
}

// listOf is the parameter list of rows.
func listOf(rows [][]api.Token) []api.Param {
	var all []given
	for _, row := range rows {
		if g, ok := givenBy(row); ok {
			all = append(all, g)
		}
	}
	var list []api.Param
	seen := map[string]bool{}
	for _, g := range all {
		if value, ok := valueOf(g.name, all); ok && !seen[g.name] {
			list = append(list, api.Param{Name: g.name, Value: value})
		}
		seen[g.name] = true
	}
	return list
}

// parsed is what Parse returns, as the chapter defines it.
func parsed(s string) (api.Type, bool) {
	rows := rowsOf(s)
	parts := typeOnly.FindStringSubmatch(wide(token.Join(rows[0])))
	if parts == nil {
		return api.Type{Kind: "text", Sub: "plain"}, false
	}
	return api.Type{Kind: lowered(parts[1]), Sub: lowered(parts[2]), Params: listOf(rows[1:])}, true
}

// disposed is what Disposition returns, as the chapter defines it.
func disposed(s string) (string, []api.Param) {
	rows := rowsOf(s)
	word := token.Join(rows[0])
	if !wordOnly.MatchString(wide(word)) {
		word = ""
	}
	return lowered(word), listOf(rows[1:])
}

// list makes parameters of names and values in turn.
func list(l ...string) []api.Param {
	var made []api.Param
	for i := 0; i < len(l); i += 2 {
		made = append(made, api.Param{Name: l[i], Value: l[i+1]})
	}
	return made
}

// shown is a list of parameters as a test tells of it.
func shown(l []api.Param) string {
	text := fmt.Sprintf("%d parameters", len(l))
	for _, one := range l[:min(5, len(l))] {
		text += fmt.Sprintf(" {%.40q %.80q}", one.Name, one.Value)
	}
	return text
}

// checkType holds what Parse returns for s against a content type.
func checkType(t *testing.T, s, kind, sub string, want ...string) {
	t.Helper()
	got, ok := ctype.Parse(s)
	if !ok || got.Kind != kind || got.Sub != sub || !slices.Equal(got.Params, list(want...)) {
		t.Errorf("Parse(%.80q) = %.40q, %.40q, %s, %v, want %.40q, %.40q, %s", s, got.Kind, got.Sub, shown(got.Params), ok, kind, sub, shown(list(want...)))
	}
}

// checkNoType holds that s tells no content type.
func checkNoType(t *testing.T, s string) {
	t.Helper()
	got, ok := ctype.Parse(s)
	if ok || got.Kind != "text" || got.Sub != "plain" || len(got.Params) > 0 {
		t.Errorf("Parse(%.80q) = %.40q, %.40q, %s, %v, want none", s, got.Kind, got.Sub, shown(got.Params), ok)
	}
}

// checkWord holds what Disposition returns for s against a word and parameters.
func checkWord(t *testing.T, s, word string, want ...string) {
	t.Helper()
	if got, l := ctype.Disposition(s); got != word || !slices.Equal(l, list(want...)) {
		t.Errorf("Disposition(%.80q) = %.40q, %s, want %.40q, %s", s, got, shown(l), word, shown(list(want...)))
	}
}

// checkReference holds what Parse and Disposition return for s against the references.
func checkReference(t *testing.T, s string) {
	t.Helper()
	got, ok := ctype.Parse(s)
	if want, right := parsed(s); ok != right || got.Kind != want.Kind || got.Sub != want.Sub || !slices.Equal(got.Params, want.Params) {
		t.Errorf("Parse(%.80q) = %.40q, %.40q, %s, %v, want %.40q, %.40q, %s, %v", s, got.Kind, got.Sub, shown(got.Params), ok, want.Kind, want.Sub, shown(want.Params), right)
	}
	word, l := ctype.Disposition(s)
	if want, params := disposed(s); word != want || !slices.Equal(l, params) {
		t.Errorf("Disposition(%.80q) = %.40q, %s, want %.40q, %s", s, word, shown(l), want, shown(params))
	}
}

// P12.1: the empty string, white space and comments alone, and empty rows.
func TestEmptyRows(t *testing.T) {
	for _, s := range []string{"", " ", "\t", "\r\n", " \r\n\t ", "()", "(a/b)", " (a) (b(c)) ", ";", ";;", " ; ; ", "(a/b);(c)"} {
		checkNoType(t, s)
		checkWord(t, s, "")
		checkNoType(t, s+";x=y")
		checkWord(t, s+";x=y", "", "x", "y")
		checkNoType(t, s+";a/b")
		checkType(t, "a/b;"+s, "a", "b")
		checkType(t, "a/b;"+s+";x=y;"+s+";"+s+";z=w;"+s, "a", "b", "x", "y", "z", "w")
		checkWord(t, "a;"+s+";x=y;"+s+";z=w;"+s, "a", "x", "y", "z", "w")
	}
	checkType(t, "a/b;", "a", "b")
	checkType(t, "a/b;;;x=y;;", "a", "b", "x", "y")
	checkNoType(t, ";a/b;x=y")
	checkNoType(t, "(c);a/b")
}

// P12.1: first rows that tell a content type.
func TestTypes(t *testing.T) {
	for _, c := range []struct{ row, kind, sub string }{
		{"a/b", "a", "b"},
		{"text/plain", "text", "plain"},
		{"Text/HTML", "text", "html"},
		{"AZ/ZA", "az", "za"},
		{"az09/AZ-09", "az09", "az-09"},
		{" a/b ", "a", "b"},
		{"a /b", "a", "b"},
		{"a/ b", "a", "b"},
		{"a / b", "a", "b"},
		{"a b/c d", "ab", "cd"},
		{"a\t\r\n b/\rc", "ab", "c"},
		{"(x)a(y)/(z(w))b(v)", "a", "b"},
		{"a(/)b/c", "ab", "c"},
		{"a/b(;)c", "a", "bc"},
		{"application/vnd.a.b", "application", "vnd.a.b"},
		{"a.b/c.", "a.b", "c."},
		{"./.", ".", "."},
		{"../a..b", "..", "a..b"},
		{"a . b/c . d", "a.b", "c.d"},
		{"!#$&^_.+-/-+._^&$#!", "!#$&^_.+-", "-+._^&$#!"},
		{"x-A/X-b+XML", "x-a", "x-b+xml"},
		{strings.Repeat("Ab", 300) + "/" + strings.Repeat("c.", 300), strings.Repeat("ab", 300), strings.Repeat("c.", 300)},
	} {
		checkType(t, c.row, c.kind, c.sub)
		checkType(t, c.row+";", c.kind, c.sub)
		checkType(t, c.row+"; x=y", c.kind, c.sub, "x", "y")
		checkType(t, "(c) "+c.row+" (d);x", c.kind, c.sub)
		checkWord(t, c.row, "")
		checkWord(t, c.row+"; x=y", "", "x", "y")
	}
}

// P12.1: first rows that tell none.
func TestNoTypes(t *testing.T) {
	for _, row := range []string{"a", "a.b", "/", "//", "a/", "/b", "a//", "//b", "a//b", "/a/b", "a/b/", "a/b/c", "a/b/c/d", "(a)/b", "a/(b)", "a(/)b", "\"a/b\"", "\"a\"/b", "a/\"b\"", "a/\"\"", "\"\"a/b", "a\"/\"b", "[a/b]", "[a]/b", "a/[b]", "a/b[]", "a@b/c", "a/b,c", "a/b:c", "<a/b>", "a\\/b", "a/b\\", "a]/b", "a)/b", "a=b/c", "a/b=c", "a/b'", "a/b*", "a%/b", "{a}/b", "a|b/c", "a`/b", "a~/b", "a?/b", "é/a", "a/é", "a/\xff", "\x00a/b", "a/b\x7f", "a/\x1f", "(a/b", "\"a/b", "[a/b", "a/b(", "a/b \"", "a/b [", "(a(b)/c"} {
		checkNoType(t, row)
		checkNoType(t, row+";x=y")
		checkNoType(t, row+";a/b;x=y")
	}
}

// P12.1: the words of a disposition.
func TestWords(t *testing.T) {
	for _, c := range []struct{ row, word string }{
		{"inline", "inline"},
		{"Attachment", "attachment"},
		{"FORM-data", "form-data"},
		{" a ", "a"},
		{"a b", "ab"},
		{"a(c)b", "ab"},
		{"(c)a", "a"},
		{"a.b", "a.b"},
		{".", "."},
		{"!#$&^_.+-", "!#$&^_.+-"},
		{"09AZaz", "09azaz"},
		{strings.Repeat("Ab", 300), strings.Repeat("ab", 300)},
		{"a/b", ""},
		{"/", ""},
		{"a=b", ""},
		{"\"a\"", ""},
		{"a\"\"", ""},
		{"[a]", ""},
		{"a,b", ""},
		{"a:", ""},
		{"a@b", ""},
		{"<a>", ""},
		{"a\\", ""},
		{"a'", ""},
		{"a*", ""},
		{"a%41", ""},
		{"é", ""},
		{"a\xff", ""},
		{"\x00", ""},
		{"a\x7f", ""},
	} {
		checkWord(t, c.row, c.word)
		checkWord(t, c.row+";", c.word)
		checkWord(t, c.row+"; X=y;z", c.word, "x", "y")
		checkWord(t, ";("+c.row+")", "")
	}
	for _, row := range []string{"(a", "\"a", "[a", "a(", "a\"", "a [", "a(b;x=y", "a\";x=y", "[a;x=y"} {
		checkWord(t, row, "")
		checkWord(t, row+";x=y", "")
	}
}

// P12.1: each single byte in the kind, in the subtype and in a disposition.
func TestBytesInFirstRows(t *testing.T) {
	all := samples.AllBytes()
	for i := range len(all) {
		b := all[i : i+1]
		for _, s := range []string{"%", "%/b", "a/%", "a%/b", "%a/b", "a/b%", "a/%b", "a%c/b", "a/b%c", "a%b", "a/b;%", "a/b;%=c", "a/b;c=%", "a;%;c=d", "a%;c=d", "a/b%;c=d"} {
			checkReference(t, strings.ReplaceAll(s, "%", b))
		}
		if wordOnly.MatchString(wide(b)) {
			checkType(t, b+"/"+b, lowered(b), lowered(b))
			checkType(t, "a"+b+"a/b"+b+"b;x=y", "a"+lowered(b)+"a", "b"+lowered(b)+"b", "x", "y")
			checkWord(t, b, lowered(b))
			checkWord(t, "a"+b+"a;x=y", "a"+lowered(b)+"a", "x", "y")
		} else if !strings.Contains("\t\n\r ;", b) {
			checkNoType(t, "a"+b+"/b")
			checkNoType(t, "a/b"+b)
			checkNoType(t, "a/"+b+"b;x=y")
			checkWord(t, "a"+b, "")
			checkWord(t, b+"a", "")
		}
	}
}

// P12.1: semicolons that divide no rows.
func TestSemicolonsInside(t *testing.T) {
	checkType(t, "a/b(;x=y);z=w", "a", "b", "z", "w")
	checkType(t, "a(;)/(;)b;(;)z(;)=w(;)", "a", "b", "z", "w")
	checkNoType(t, "a/b\";\";x=y")
	checkWord(t, "a\";\";x=y", "", "x", "y")
	checkNoType(t, "a/[;]b;x=y")
	checkWord(t, "[;];x=y", "", "x", "y")
	checkType(t, "a/b;x=\";\";z=w", "a", "b", "x", ";", "z", "w")
	checkType(t, "a/b;x=\"\\\";\";z=w", "a", "b", "x", "\";", "z", "w")
	checkType(t, "a/b;x=[;];z=w", "a", "b", "x", "[;]", "z", "w")
	checkType(t, "a/b;\";\"x=y;z=w", "a", "b", "\";\"x", "y", "z", "w")
	// What nothing opened encloses no semicolon, and a backslash outside is a byte like others.
	checkType(t, "a/b;x=y\\;z=w", "a", "b", "x", "y\\", "z", "w")
	checkType(t, "a/b;x=y);z=w", "a", "b", "x", "y)", "z", "w")
	checkType(t, "a/b;x=];z=w", "a", "b", "x", "]", "z", "w")
	checkType(t, "a/b;x=<y;z=w>", "a", "b", "x", "<y", "z", "w>")
}

// P12.1: what is not closed reaches to the end, and bytes that are no tokens.
func TestBadTokens(t *testing.T) {
	for _, open := range []string{"(", "\"", "[", "(c", "\"c", "[c", "(\\)", "\"\\\"", "[\\]", "((c)", "(;z=w", "\";z=w", "[;z=w", "(c;z=w;\\"} {
		checkNoType(t, open)
		checkNoType(t, open+"a/b;x=y")
		checkNoType(t, "a/b"+open+";x=y")
		checkWord(t, open, "")
		checkWord(t, "a"+open+";x=y", "")
		checkType(t, "a/b;"+open+";x=y", "a", "b")
		checkType(t, "a/b;x=y;"+open+";u=v", "a", "b", "x", "y")
		checkType(t, "a/b;x=y"+open, "a", "b", "x", "y"+open)
		checkType(t, "a/b;x="+open+";u=v", "a", "b", "x", open+";u=v")
		checkType(t, "a/b;x"+open+"=y", "a", "b")
	}
	for _, bad := range []string{"\x00", "\x01", "\x08", "\x0b", "\x1f", "\x7f"} {
		checkType(t, "a/b;"+bad+"x=y", "a", "b", bad+"x", "y")
		checkType(t, "a/b;x"+bad+"=y", "a", "b", "x"+bad, "y")
		checkType(t, "a/b;x="+bad+"y", "a", "b", "x", bad+"y")
		checkType(t, "a/b;x=y"+bad, "a", "b", "x", "y"+bad)
		checkType(t, "a/b;"+bad+";x=y", "a", "b", "x", "y")
	}
}

// drawn returns a string of bytes of the alphabet without a pattern.
func drawn(alphabet string, length int, seed uint64) string {
	text := []byte(samples.Noise(length, seed))
	for i, b := range text {
		text[i] = alphabet[int(b)%len(alphabet)]
	}
	return string(text)
}

// P12.1: Parse and Disposition against references of their own, for strings of all kinds.
func TestAgainstReference(t *testing.T) {
	texts := samples.Words(samples.AllBytes(), 2)
	texts = append(texts, samples.Words("a/;= \"(", 5)...)
	texts = append(texts, samples.Words("aA./\"[\\);=\x00", 4)...)
	for _, w := range samples.Words("a=\"\\ ;(*", 5) {
		texts = append(texts, "a/b;"+w, "x;a=b;"+w+";a*=c")
	}
	for seed := range uint64(200) {
		texts = append(texts, samples.Noise(500, seed), "a/b;"+samples.Noise(500, seed))
		texts = append(texts, "a/b;"+drawn("aaab==*01;;;''%4e \"\"()[]\\.", 500, seed), "a/b;"+drawn("a=*01;'%", 300, seed))
	}
	texts = append(texts, samples.AllBytes(), "a/b;"+samples.AllBytes())
	for _, s := range texts {
		checkReference(t, s)
	}
}

// inMemory is a string that lies in memory which a test may write over.
func inMemory(s string) (string, []byte) {
	memory := append([]byte(s), 0)
	return unsafe.String(&memory[0], len(s)), memory
}

// P12.4, R2: Parse and Disposition change and keep nothing of their argument: what they returned stays as it is when its memory is written over.
func TestParseKeepsNoArgument(t *testing.T) {
	for _, s := range []string{"", "a/b", "attachment", "a/b;x=y", "text/html; charset=utf-8; name=\"x y\"", "a . b/c; d . e=f . g; h=\"\"", "inline; x*0=long; x*1=\"er\"; x*2*=%41", "a/b; x*=utf-8'de'plain; y*=''text; z*=text; w*=latin1''text", "a/b; x=\"quoted\"; =y; z"} {
		wanted, right := parsed(s)
		word, params := disposed(s)
		text, memory := inMemory(s)
		got, ok := ctype.Parse(text)
		gotWord, gotParams := ctype.Disposition(text)
		if text != s {
			t.Errorf("the argument was changed to %q", text)
		}
		clear(memory)
		if got.Kind != wanted.Kind || got.Sub != wanted.Sub || ok != right || !slices.Equal(got.Params, wanted.Params) {
			t.Errorf("what Parse(%q) returned became %q, %q, %s", s, got.Kind, got.Sub, shown(got.Params))
		}
		if gotWord != word || !slices.Equal(gotParams, params) {
			t.Errorf("what Disposition(%q) returned became %q, %s", s, gotWord, shown(gotParams))
		}
	}
}

// P12.4: lists that were returned are fresh: one stays as it is when another call follows, and changing it changes nothing else.
func TestParsedListsAreFresh(t *testing.T) {
	const s = "a/b; x=y; z*=''w; v*0=u"
	want := []string{"x", "y", "z", "w", "v", "u"}
	first, _ := ctype.Parse(s)
	second, _ := ctype.Parse(s)
	_, third := ctype.Disposition(s)
	_, fourth := ctype.Disposition(s)
	ctype.Parse("c/d; p=q; r=s; t=u; v=w")
	for _, l := range [][]api.Param{first.Params, third} {
		l[0] = api.Param{Name: "changed", Value: "too"}
		_ = append(l[:1], list("more", "1", "more", "2", "more", "3")...)
	}
	if !slices.Equal(second.Params, list(want...)) || !slices.Equal(fourth, list(want...)) {
		t.Errorf("other lists became %s, %s", shown(second.Params), shown(fourth))
	}
	checkType(t, s, "a", "b", want...)
	checkWord(t, s, "", want...)
}

// P12.2: Param returns the first parameter of a name, in any ASCII case.
func TestParam(t *testing.T) {
	l := list("A", "1", "a", "2", "b", "3", "B", "4", "", "5", "", "6", "É", "7", "k", "", "x\xff", "8", "z", "9", "*", "10", "[", "11")
	for _, c := range []struct {
		name, want string
		ok         bool
	}{
		{"a", "1", true},
		{"A", "1", true},
		{"b", "3", true},
		{"B", "3", true},
		{"", "5", true},
		{"É", "7", true},
		{"é", "", false},
		{"k", "", true},
		{"K", "", true},
		{"\u212a", "", false},
		{"X\xff", "8", true},
		{"x\xfe", "", false},
		{"x\xef\xbf\xbd", "", false},
		{"Z", "9", true},
		{"*", "10", true},
		{"[", "11", true},
		{"{", "", false},
		{"c", "", false},
		{"aa", "", false},
		{"a ", "", false},
		{" ", "", false},
		{"\x00", "", false},
	} {
		if got, ok := ctype.Param(l, c.name); got != c.want || ok != c.ok {
			t.Errorf("Param(%q) = %q, %v, want %q, %v", c.name, got, ok, c.want, c.ok)
		}
		if got, ok := ctype.Param(nil, c.name); got != "" || ok {
			t.Errorf("Param(%q) of no parameters = %q, %v", c.name, got, ok)
		}
		if got, ok := ctype.Param([]api.Param{}, c.name); got != "" || ok {
			t.Errorf("Param(%q) of an empty list = %q, %v", c.name, got, ok)
		}
	}
	if !slices.Equal(l, list("A", "1", "a", "2", "b", "3", "B", "4", "", "5", "", "6", "É", "7", "k", "", "x\xff", "8", "z", "9", "*", "10", "[", "11")) {
		t.Errorf("the list became %s", shown(l))
	}
}

// P12.2: two names of one byte are the same if they are the same letter of ASCII, or the same byte.
func TestParamBytes(t *testing.T) {
	all := samples.AllBytes()
	for i := range len(all) {
		for k := range len(all) {
			a, b := all[i:i+1], all[k:k+1]
			_, ok := ctype.Param(list(a, ""), b)
			if ok != (lowered(a) == lowered(b)) {
				t.Errorf("Param of a parameter %q for %q = %v", a, b, ok)
			}
		}
	}
}

// P12.2, P12.4: Param keeps nothing of its arguments.
func TestParamKeepsNoArgument(t *testing.T) {
	name, nameMemory := inMemory("Name")
	value, valueMemory := inMemory("the value")
	wanted, wantedMemory := inMemory("nAME")
	got, ok := ctype.Param([]api.Param{{Name: name, Value: value}}, wanted)
	if name != "Name" || value != "the value" || wanted != "nAME" {
		t.Errorf("Param changed its arguments to %q, %q, %q", name, value, wanted)
	}
	clear(nameMemory)
	clear(valueMemory)
	clear(wantedMemory)
	if got != "the value" || !ok {
		t.Errorf("what Param returned became %q, %v", got, ok)
	}
}

// P1: Parse and Disposition end soon for long strings of the kinds that they stop at.
func TestLongStrings(t *testing.T) {
	const many = 20000
	for _, unit := range []string{"a", " ", ";", "/", "=", "*", "'", "%", "\"", "(", "()", "[", ")", "\\", "\x00", ".", ";a", ";a=", ";a=b", ";a*0=b", ";a*=b", ";a*1=b", ";*", ";**=", "a.", "%41", "%4", "a*0", ";a=\"\""} {
		long := strings.Repeat(unit, many)
		for _, s := range []string{long, "a/b;" + long, "a/b;x=" + long, "a/b;x*0*=a'b'" + long} {
			kind, _ := ctype.Parse(s)
			_, l := ctype.Disposition(s)
			if len(kind.Params) > 2 || len(l) > 2 {
				t.Errorf("%s, %s for %q, repeated", shown(kind.Params), shown(l), unit)
			}
		}
	}
	var text strings.Builder
	var want []string
	for n := range many {
		name := "n" + strconv.Itoa(n)
		text.WriteString(";" + name + "*1=b;" + name + "*0=a;" + name + "=c")
		want = append(want, name, "ab")
	}
	checkType(t, "a/b"+text.String(), "a", "b", want...)
	checkWord(t, "a"+text.String(), "a", want...)
}
