package token_test

import (
	"regexp"
	"slices"
	"strings"
	"testing"

	"pouch/api"
	"pouch/samples"
	"pouch/token"
)

var (
	atomsAndSpaces = regexp.MustCompile(`\A[^\x00-\x20\x7f()<>\[\]:;@\\,."]+(?: [^\x00-\x20\x7f()<>\[\]:;@\\,."]+)*\z`)
	toEscape       = regexp.MustCompile(`["\\\r\n]`)
	escapeOrBreak  = regexp.MustCompile(`(?s)\\(.?)|[\r\n]`)
)

// kinds lists the kinds of tokens, and some that the chapter does not name.
var kinds = []int{api.TAtom, api.TQuoted, api.TComment, api.TSpecial, api.TLiteral, api.TSpace, api.TBad, 0, 8, -1, api.MaxInt, api.MinInt}

// valueOf is what Value returns, as the chapter defines it.
func valueOf(t api.Token) string {
	if (t.Kind == api.TQuoted || t.Kind == api.TComment) && len(t.Text) > 1 {
		return escapeOrBreak.ReplaceAllString(t.Text[1:len(t.Text)-1], "$1")
	}
	return t.Text
}

// quoteOf is what Quote returns, as the chapter defines it.
func quoteOf(s string) string {
	if atomsAndSpaces.MatchString(s) {
		return s
	}
	return "\"" + toEscape.ReplaceAllString(s, "\\$0") + "\""
}

// checkValue holds what Value returns for a text of a kind against what is wanted.
func checkValue(t *testing.T, kind int, text, want string) {
	t.Helper()
	if got := token.Value(api.Token{Kind: kind, Text: text}); got != want {
		t.Errorf("Value of kind %d %.40q = %.40q, want %.40q", kind, text, got, want)
	}
}

// P10.2: the value of a quoted string or comment: without its first and last byte, whatever they are, its escapes and its unescaped line breaks.
func TestValueOfEnclosed(t *testing.T) {
	for _, c := range []struct{ inner, want string }{
		{"", ""},
		{"a", "a"},
		{"ab c", "ab c"},
		{" a ", " a "},
		{"\t", "\t"},
		{"\x00\x7f\xff", "\x00\x7f\xff"},
		{"é", "é"},
		{"\\a", "a"},
		{"a\\bc", "abc"},
		{"\\", ""},
		{"a\\", "a"},
		{"\\\\", "\\"},
		{"\\\\\\", "\\"},
		{"\\\\\\\\", "\\\\"},
		{"a\\\\b", "a\\b"},
		{"a\\\\\\b", "a\\b"},
		{"a\\\\\\", "a\\"},
		{"a\\\"b", "a\"b"},
		{"\\\"", "\""},
		{"\"", "\""},
		{"\\(\\)\\]", "()]"},
		{"(a)", "(a)"},
		{"a(b)\\)c", "a(b))c"},
		{"[\\]]", "[]]"},
		{"\n", ""},
		{"\r", ""},
		{"\r\n", ""},
		{"\n\r\n\n", ""},
		{"a\r\n b", "a b"},
		{"a\rb\nc", "abc"},
		{"\r\na\r\n", "a"},
		{"\\\n", "\n"},
		{"\\\r", "\r"},
		{"\\\r\n", "\r"},
		{"\\\r\\\n", "\r\n"},
		{"\r\\\n", "\n"},
		{"a\\\nb\n", "a\nb"},
		{"\\\\\n", "\\"},
		{"\\\\\\\n", "\\\n"},
		{"\n\\", ""},
		{"\\ ", " "},
		{"\\\x00\\\xff", "\x00\xff"},
		{"\\é", "é"},
		{"\\n\\r", "nr"},
		{"\v\f\u0085\u2028", "\v\f\u0085\u2028"},
	} {
		for _, kind := range []int{api.TQuoted, api.TComment} {
			checkValue(t, kind, "\""+c.inner+"\"", c.want)
			checkValue(t, kind, "("+c.inner+")", c.want)
			// These are no texts that Scan returns: what is taken away may be any bytes.
			checkValue(t, kind, "x"+c.inner+"y", c.want)
			checkValue(t, kind, "\\"+c.inner+"\\", c.want)
			checkValue(t, kind, "\n"+c.inner+"\r", c.want)
			checkValue(t, kind, "\xff"+c.inner+"\x00", c.want)
		}
	}
}

// P10.2: texts of no byte, one, two and three bytes, of each kind.
func TestValueOfShortTexts(t *testing.T) {
	for _, kind := range kinds {
		enclosed := kind == api.TQuoted || kind == api.TComment
		for _, c := range []struct{ text, inner string }{
			{"", ""},
			{"a", "a"},
			{"\"", "\""},
			{"(", "("},
			{"\\", "\\"},
			{"\n", "\n"},
			{"\r", "\r"},
			{"\xff", "\xff"},
			{"ab", ""},
			{"\"\"", ""},
			{"()", ""},
			{"[]", ""},
			{"\\\\", ""},
			{"\\\"", ""},
			{"\r\n", ""},
			{"é", ""},
			{"abc", "b"},
			{"\"a\"", "a"},
			{"(a)", "a"},
			{"[a]", "a"},
			{"\\a\\", "a"},
			{"\"\\\"", ""},
			{"(\n)", ""},
			{"\"\xff\"", "\xff"},
			{"€", "\x82"},
		} {
			want := c.text
			if enclosed {
				want = c.inner
			}
			checkValue(t, kind, c.text, want)
		}
	}
}

// P10.2: the value of every other kind is the text, with all that would be taken out of a quoted string.
func TestValueOfOtherKinds(t *testing.T) {
	for _, kind := range kinds {
		if kind == api.TQuoted || kind == api.TComment {
			continue
		}
		for _, text := range []string{"word", "\"a\\\"b\"", "\"a", "(a\\)b)", "(a", "[1.2]", "[a\\]\r\n]", "a\\b", "\r\n \t", "\\", ".", "\x00", samples.AllBytes()} {
			checkValue(t, kind, text, text)
		}
	}
}

// P10.2: the values of tokens that Scan returns.
func TestValueOfScanned(t *testing.T) {
	for s, want := range map[string][]string{
		"a \"b\\\"c\" (d)":         {"a", " ", "b\"c", " ", "d"},
		"(a(b)\\)c)d":              {"a(b))c", "d"},
		"(a(b\\(c)\\\\)":           {"a(b(c)\\"},
		"\"a\r\n b\"":              {"a b"},
		"\"a\\\r\nb\"[c\\]]":       {"a\rb", "[c\\]]"},
		"\"\"()[]":                 {"", "", "[]"},
		"\\\"\\\\\"(a":             {"\\", "\\", "(a"},
		"\"a\\\"":                  {"\"a\\\""},
		"\x00\\.":                  {"\x00", "\\", "."},
		"((\"a\"[b]\n))\"(c)[d]\"": {"(\"a\"[b])", "(c)[d]"},
	} {
		var got []string
		for _, one := range token.Scan(s) {
			got = append(got, token.Value(one))
		}
		if !slices.Equal(got, want) {
			t.Errorf("the values of %q are %q, want %q", s, got, want)
		}
	}
}

// P10.2: Value against a reference of its own kind, for texts of all kinds.
func TestValueAgainstReference(t *testing.T) {
	for _, s := range texts() {
		for _, kind := range kinds[:8] {
			checkValue(t, kind, s, valueOf(api.Token{Kind: kind, Text: s}))
		}
		checkValue(t, api.TQuoted, "\""+s+"\"", valueOf(quoted("\""+s+"\"")))
	}
}

// checkQuote holds what Quote returns for s against what is wanted.
func checkQuote(t *testing.T, s, want string) {
	t.Helper()
	if got := token.Quote(s); got != want {
		t.Errorf("Quote(%.40q) = %.40q, want %.40q", s, got, want)
	}
}

// P10.3: atoms that are separated by single spaces are left as they are.
func TestQuoteOfAtoms(t *testing.T) {
	for _, s := range []string{"a", "ab", "a b", "a b c", "one two three", "!#$%&'*+-/=?^_`{|}~", "\x80", "\xff \xfe", "é ü", "a\u00a0b", "\u2028", "=?utf-8?q?a?=", samples.AllBytes()[128:], strings.Repeat("a", 3000), strings.Repeat("ab ", 3000) + "c"} {
		checkQuote(t, s, s)
		checkQuote(t, s+" "+s, s+" "+s)
		checkQuote(t, s+"  "+s, "\""+s+"  "+s+"\"")
		checkQuote(t, " "+s, "\" "+s+"\"")
		checkQuote(t, s+" ", "\""+s+" \"")
	}
}

// P10.3: all other strings are enclosed, and four bytes escaped.
func TestQuote(t *testing.T) {
	for _, c := range []struct{ s, want string }{
		{"", "\"\""},
		{" ", "\" \""},
		{"  ", "\"  \""},
		{" a", "\" a\""},
		{"a ", "\"a \""},
		{" a b ", "\" a b \""},
		{"a  b", "\"a  b\""},
		{"a b  c", "\"a b  c\""},
		{"a   b", "\"a   b\""},
		{"a\tb", "\"a\tb\""},
		{"a \tb", "\"a \tb\""},
		{"\t", "\"\t\""},
		{"a\nb", "\"a\\\nb\""},
		{"a\rb", "\"a\\\rb\""},
		{"a\r\nb", "\"a\\\r\\\nb\""},
		{"a b\r\n", "\"a b\\\r\\\n\""},
		{"\n", "\"\\\n\""},
		{"\r", "\"\\\r\""},
		{"\n\n", "\"\\\n\\\n\""},
		{"\n a \r", "\"\\\n a \\\r\""},
		{"\"", "\"\\\"\""},
		{"\"\"", "\"\\\"\\\"\""},
		{"\"a\"", "\"\\\"a\\\"\""},
		{"a\"b", "\"a\\\"b\""},
		{"\\", "\"\\\\\""},
		{"\\\\", "\"\\\\\\\\\""},
		{"\\a\\", "\"\\\\a\\\\\""},
		{"\\\"", "\"\\\\\\\"\""},
		{"\\\n", "\"\\\\\\\n\""},
		{"a.b", "\"a.b\""},
		{"a b.", "\"a b.\""},
		{"a@b.c", "\"a@b.c\""},
		{"(a)", "\"(a)\""},
		{"[a]", "\"[a]\""},
		{"\x00", "\"\x00\""},
		{"a\x00", "\"a\x00\""},
		{"a \x1f", "\"a \x1f\""},
		{"\x7f b", "\"\x7f b\""},
		{"a\x7f", "\"a\x7f\""},
		{"\xff.", "\"\xff.\""},
		{"é, ü", "\"é, ü\""},
		{"a\vb\fc", "\"a\vb\fc\""},
	} {
		checkQuote(t, c.s, c.want)
	}
}

// P10.3: each single byte, alone, in a row, at both ends and in the midst of an atom.
func TestQuoteOfBytes(t *testing.T) {
	all := samples.AllBytes()
	for i := range len(all) {
		b := all[i : i+1]
		written, plain := b, i > 32 && i != 127 && !strings.Contains(specials, b)
		if i == 10 || i == 13 || i == 34 || i == 92 {
			written = "\\" + b
		}
		for _, pattern := range []string{"%", "%%", "%%%", "%a", "a%", "%a%", "a%a", "a %", "% a", "a % a"} {
			want := strings.ReplaceAll(pattern, "%", written)
			if !plain && (i != 32 || pattern != "a%a") {
				want = "\"" + want + "\""
			}
			checkQuote(t, strings.ReplaceAll(pattern, "%", b), want)
		}
	}
}

// P10.3: Quote against a reference of its own kind, for inputs of all kinds.
func TestQuoteAgainstReference(t *testing.T) {
	for _, s := range append(texts(), samples.Words("ab \\", 6)...) {
		checkQuote(t, s, quoteOf(s))
	}
}

// P10.5: what Quote writes is one quoted token whose value is the string, or the atoms and spaces of the string.
func TestQuotedIsScanned(t *testing.T) {
	for _, s := range append(texts(), samples.Words("ab \"\\\n", 5)...) {
		written := token.Quote(s)
		l := token.Scan(written)
		if len(l) == 1 && l[0].Kind == api.TQuoted {
			if got := token.Value(l[0]); got != s || l[0].Text != written {
				t.Errorf("%.40q, quoted and scanned, has the value %.40q", s, got)
			}
			continue
		}
		for i, one := range l {
			if i%2 == 0 && one.Kind != api.TAtom || i%2 == 1 && one != space(" ") {
				t.Errorf("%.40q, quoted, is scanned to %s", s, shown(l))
				break
			}
		}
		if len(l)%2 == 0 || token.Join(l) != s {
			t.Errorf("%.40q, quoted, is scanned to %s", s, shown(l))
		}
	}
}

// P10.4, R2: Value and Quote change and keep nothing of their arguments.
func TestQuotesKeepNoArgument(t *testing.T) {
	for _, s := range []string{"", "a", "pouch", "a b", "a  b", "\"pouch\"", "(a\\b)", "\"a\r\nb\"", "[a]", "\"", samples.AllBytes()} {
		for _, kind := range kinds {
			text, memory := inMemory(s)
			value, written := token.Value(api.Token{Kind: kind, Text: text}), token.Quote(text)
			if text != s {
				t.Errorf("the argument became %.40q", text)
			}
			clear(memory)
			if want := valueOf(api.Token{Kind: kind, Text: s}); value != want {
				t.Errorf("what Value returned became %.40q, want %.40q", value, want)
			}
			if want := quoteOf(s); written != want {
				t.Errorf("what Quote returned became %.40q, want %.40q", written, want)
			}
		}
	}
}

// P1: the calls end soon for long strings.
func TestLongQuotes(t *testing.T) {
	for _, unit := range []string{"a", "a ", " ", "\\", "\"", "\n", "\\a", "\r\n", "\x00", "\xff", "(", "()"} {
		s := strings.Repeat(unit, 1000000)
		checkQuote(t, s, quoteOf(s))
		checkValue(t, api.TQuoted, "\""+s+"\"", valueOf(quoted("\""+s+"\"")))
		if l := token.Scan(token.Quote(s)); len(l) != 1 || token.Value(l[0]) != s {
			t.Errorf("%q, repeated and quoted, is scanned to %s", unit, shown(l))
		}
	}
}
