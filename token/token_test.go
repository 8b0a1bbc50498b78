package token_test

import (
	"fmt"
	"regexp"
	"slices"
	"strings"
	"testing"
	"unsafe"

	"pouch/api"
	"pouch/samples"
	"pouch/token"
)

const specials = `()<>[]:;@\,."`

// starts lists the kinds of tokens but comments, by how a string starts.
var starts = []struct {
	kind  int
	start *regexp.Regexp
}{
	{api.TSpace, regexp.MustCompile(`\A[\t\n\r ]+`)},
	{api.TQuoted, regexp.MustCompile(`(?s)\A"(?:[^"\\]|\\.)*"`)},
	{api.TLiteral, regexp.MustCompile(`(?s)\A\[(?:[^]\\]|\\.)*\]`)},
	{api.TBad, regexp.MustCompile(`(?s)\A["(\[].*\z`)},
	{api.TSpecial, regexp.MustCompile(`\A[)<>\]:;@\\,.]`)},
	{api.TAtom, regexp.MustCompile(`\A[^\x00-\x20\x7f()<>\[\]:;@\\,."]+`)},
}

// commentLength is the length of the comment that s starts with, or 0 if it has no end.
func commentLength(s string) int {
	at := 1
	for at < len(s) && s[at] != ')' {
		length := 1
		switch s[at] {
		case '\\':
			length = 2
		case '(':
			if length = commentLength(s[at:]); length == 0 {
				return 0
			}
		}
		at += length
	}
	if at >= len(s) {
		return 0
	}
	return at + 1
}

// firstOf is the first token of a string that is not empty, as the chapter defines it.
func firstOf(s string) api.Token {
	if s[0] == '(' {
		if length := commentLength(s); length > 0 {
			return comment(s[:length])
		}
	}
	for _, c := range starts {
		if text := c.start.FindString(s); text != "" {
			return api.Token{Kind: c.kind, Text: text}
		}
	}
	return bad(s[:1])
}

// scanned is what Scan returns for s, as the chapter defines it.
func scanned(s string) []api.Token {
	var list []api.Token
	for s != "" {
		list = append(list, firstOf(s))
		s = s[len(list[len(list)-1].Text):]
	}
	return list
}

func atom(text string) api.Token    { return api.Token{Kind: api.TAtom, Text: text} }
func quoted(text string) api.Token  { return api.Token{Kind: api.TQuoted, Text: text} }
func comment(text string) api.Token { return api.Token{Kind: api.TComment, Text: text} }
func special(text string) api.Token { return api.Token{Kind: api.TSpecial, Text: text} }
func literal(text string) api.Token { return api.Token{Kind: api.TLiteral, Text: text} }
func space(text string) api.Token   { return api.Token{Kind: api.TSpace, Text: text} }
func bad(text string) api.Token     { return api.Token{Kind: api.TBad, Text: text} }

// tokens is a list of tokens, written shorter.
func tokens(l ...api.Token) []api.Token { return l }

// shown is a list of tokens as a test tells of it.
func shown(l []api.Token) string {
	names := []string{"none", "atom", "quoted", "comment", "special", "literal", "space", "bad"}
	text := fmt.Sprintf("%d tokens", len(l))
	for _, t := range l[:min(6, len(l))] {
		name := fmt.Sprint(t.Kind)
		if t.Kind >= 0 && t.Kind < len(names) {
			name = names[t.Kind]
		}
		text += fmt.Sprintf(" %s %.30q", name, t.Text)
	}
	return text
}

// checkScan holds what Scan returns for s against what is wanted.
func checkScan(t *testing.T, s string, want []api.Token) {
	t.Helper()
	if got := token.Scan(s); !slices.Equal(got, want) {
		t.Errorf("Scan(%.60q) = %s, want %s", s, shown(got), shown(want))
	}
}

// scanCase pairs a string with its tokens.
type scanCase struct {
	s    string
	want []api.Token
}

func checkScans(t *testing.T, list []scanCase) {
	t.Helper()
	for _, c := range list {
		checkScan(t, c.s, c.want)
	}
}

// texts lists inputs of all kinds: every pair of bytes, the short strings of the bytes that matter, long strings, many tokens, and bytes without a pattern.
func texts() []string {
	list := samples.Words(samples.AllBytes(), 2)
	list = append(list, samples.Words("a (\")[]\\", 5)...)
	list = append(list, samples.Words("()\\a", 7)...)
	list = append(list, samples.Words("\"\\[]\n", 6)...)
	list = append(list, samples.Words("a \t\r\n\x00\x7f\xff.", 4)...)
	for _, s := range []string{"a", " ", "\r\n\t", "\x00", "\x7f", "\xff", "é", ".", "\\", "(", ")", "()", "\"", "[", "]", "[]", "a.", "a ", "(a) ", "\"a\\\"\" ", "[a\\]]", "\\(", "(\\)", "\"("} {
		long := strings.Repeat(s, 2000)
		list = append(list, long, "("+long+")", "\""+long+"\"", "["+long+"]", "a "+long+" b", long+"\\")
	}
	list = append(list, samples.AllBytes(), strings.Repeat("(", 2000)+strings.Repeat(")", 2000))
	for seed := range uint64(20) {
		noise := samples.Noise(2000, seed)
		list = append(list, noise, strings.NewReplacer("(", "a", "[", "b", "\"", "c").Replace(noise))
		list = append(list, strings.NewReplacer("[", " ", "\x80", ")", "\x81", ")", "\x82", "\\", "\x83", "\"").Replace(noise))
	}
	return list
}

// P10.1: the empty string has no token.
func TestScanOfNothing(t *testing.T) {
	checkScan(t, "", nil)
}

// P10.1: each single byte, alone and twice.
func TestScanOfBytes(t *testing.T) {
	all := samples.AllBytes()
	for i := range len(all) {
		b := all[i : i+1]
		one, two := tokens(atom(b)), tokens(atom(b+b))
		switch {
		case i == 9, i == 10, i == 13, i == 32:
			one, two = tokens(space(b)), tokens(space(b+b))
		case b == "(", b == "[":
			one, two = tokens(bad(b)), tokens(bad(b+b))
		case b == "\"":
			one, two = tokens(bad(b)), tokens(quoted(b+b))
		case strings.Contains(specials, b):
			one, two = tokens(special(b)), tokens(special(b), special(b))
		case i < 32, i == 127:
			one, two = tokens(bad(b)), tokens(bad(b), bad(b))
		}
		checkScan(t, b, one)
		checkScan(t, b+b, two)
	}
}

// P10.1: the first byte of each kind, before and behind that of another.
func TestScanOfPairs(t *testing.T) {
	checkScans(t, []scanCase{
		{" a", tokens(space(" "), atom("a"))},
		{"a ", tokens(atom("a"), space(" "))},
		{" (", tokens(space(" "), bad("("))},
		{"( ", tokens(bad("( "))},
		{" \"", tokens(space(" "), bad("\""))},
		{"\" ", tokens(bad("\" "))},
		{" [", tokens(space(" "), bad("["))},
		{"[ ", tokens(bad("[ "))},
		{" .", tokens(space(" "), special("."))},
		{". ", tokens(special("."), space(" "))},
		{" \x00", tokens(space(" "), bad("\x00"))},
		{"\x00 ", tokens(bad("\x00"), space(" "))},
		{"a(", tokens(atom("a"), bad("("))},
		{"(a", tokens(bad("(a"))},
		{"a\"", tokens(atom("a"), bad("\""))},
		{"\"a", tokens(bad("\"a"))},
		{"a[", tokens(atom("a"), bad("["))},
		{"[a", tokens(bad("[a"))},
		{"a.", tokens(atom("a"), special("."))},
		{".a", tokens(special("."), atom("a"))},
		{"a\x00", tokens(atom("a"), bad("\x00"))},
		{"\x00a", tokens(bad("\x00"), atom("a"))},
		{"(\"", tokens(bad("(\""))},
		{"\"(", tokens(bad("\"("))},
		{"([", tokens(bad("(["))},
		{"[(", tokens(bad("[("))},
		{"\"[", tokens(bad("\"["))},
		{"[\"", tokens(bad("[\""))},
		{"(.", tokens(bad("(."))},
		{".(", tokens(special("."), bad("("))},
		{"\".", tokens(bad("\"."))},
		{".\"", tokens(special("."), bad("\""))},
		{"[.", tokens(bad("[."))},
		{".[", tokens(special("."), bad("["))},
		{"(\x00", tokens(bad("(\x00"))},
		{"\x00(", tokens(bad("\x00"), bad("("))},
		{"\"\x7f", tokens(bad("\"\x7f"))},
		{"\x7f\"", tokens(bad("\x7f"), bad("\""))},
		{"[\x1f", tokens(bad("[\x1f"))},
		{"\x1f[", tokens(bad("\x1f"), bad("["))},
		{"\x00.", tokens(bad("\x00"), special("."))},
		{".\x00", tokens(special("."), bad("\x00"))},
		{"()", tokens(comment("()"))},
		{")(", tokens(special(")"), bad("("))},
		{"[]", tokens(literal("[]"))},
		{"][", tokens(special("]"), bad("["))},
		{"\"\"", tokens(quoted("\"\""))},
	})
}

// P10.1: white space of its four bytes, and the bytes beside them, which are none.
func TestWhiteSpace(t *testing.T) {
	checkScans(t, []scanCase{
		{" \t\r\n", tokens(space(" \t\r\n"))},
		{"\n\n\r\r\t\t  ", tokens(space("\n\n\r\r\t\t  "))},
		{" a ", tokens(space(" "), atom("a"), space(" "))},
		{"\t\ta\t\t", tokens(space("\t\t"), atom("a"), space("\t\t"))},
		{"\na\r\n", tokens(space("\n"), atom("a"), space("\r\n"))},
		{"\r\n b \r\n c", tokens(space("\r\n "), atom("b"), space(" \r\n "), atom("c"))},
		{" . ", tokens(space(" "), special("."), space(" "))},
		{" (a) ", tokens(space(" "), comment("(a)"), space(" "))},
		{"\t\"a\"\t", tokens(space("\t"), quoted("\"a\""), space("\t"))},
		{"\r[a]\n", tokens(space("\r"), literal("[a]"), space("\n"))},
		{" \x00 ", tokens(space(" "), bad("\x00"), space(" "))},
		{" \x08", tokens(space(" "), bad("\x08"))},
		{"\t\v\f\r", tokens(space("\t"), bad("\v"), bad("\f"), space("\r"))},
		{"\r\x0e", tokens(space("\r"), bad("\x0e"))},
		{"\x1f !", tokens(bad("\x1f"), space(" "), atom("!"))},
		{"a\u00a0b\u2003\u0085", tokens(atom("a\u00a0b\u2003\u0085"))},
	})
	for _, s := range samples.Words("\t\n\r ", 5)[1:] {
		checkScan(t, s, tokens(space(s)))
		checkScan(t, "a"+s+"b", tokens(atom("a"), space(s), atom("b")))
		checkScan(t, s+"()"+s, tokens(space(s), comment("()"), space(s)))
	}
	for _, b := range []string{"\x08", "\v", "\f", "\x0e", "\x1f"} {
		checkScan(t, b, tokens(bad(b)))
		checkScan(t, " "+b+" ", tokens(space(" "), bad(b), space(" ")))
		checkScan(t, b+b, tokens(bad(b), bad(b)))
	}
	checkScan(t, "!! !", tokens(atom("!!"), space(" "), atom("!")))
}

// P10.1: each special but the opening bytes is a token by itself, whatever stands beside it.
func TestSpecials(t *testing.T) {
	const alone = `)<>]:;@\,.`
	for i := range len(alone) {
		b := alone[i : i+1]
		checkScan(t, b, tokens(special(b)))
		checkScan(t, "a"+b+"c", tokens(atom("a"), special(b), atom("c")))
		checkScan(t, b+" "+b, tokens(special(b), space(" "), special(b)))
		checkScan(t, b+"\x00"+b, tokens(special(b), bad("\x00"), special(b)))
		checkScan(t, b+"(a)"+b, tokens(special(b), comment("(a)"), special(b)))
		checkScan(t, b+"\"a\"", tokens(special(b), quoted("\"a\"")))
		checkScan(t, b+"[a]", tokens(special(b), literal("[a]")))
		for k := range len(alone) {
			next := alone[k : k+1]
			checkScan(t, b+next, tokens(special(b), special(next)))
		}
	}
	checkScan(t, "<a@b>", tokens(special("<"), atom("a"), special("@"), atom("b"), special(">")))
	checkScan(t, "a,b;c:.", tokens(atom("a"), special(","), atom("b"), special(";"), atom("c"), special(":"), special(".")))
}

// P10.1: atoms, and where they end.
func TestAtoms(t *testing.T) {
	const others = "!#$%&'*+-/0123456789=?AZ^_`az{|}~"
	high := samples.AllBytes()[128:]
	for _, s := range []string{"a", "ab", "word", others, high, "\x80", "\xff", "é", "a\xffb", "\xc3\xa4=?!", "\u2028", "\ufffd", "=?utf-8?q?a?="} {
		checkScan(t, s, tokens(atom(s)))
		for _, end := range []string{" ", "\t", "\r", "\n"} {
			checkScan(t, s+end, tokens(atom(s), space(end)))
			checkScan(t, s+end+s, tokens(atom(s), space(end), atom(s)))
		}
		for _, end := range []string{")", "<", ">", "]", ":", ";", "@", "\\", ",", "."} {
			checkScan(t, s+end+s, tokens(atom(s), special(end), atom(s)))
		}
		for _, end := range []string{"\x00", "\x08", "\v", "\f", "\x0e", "\x1b", "\x1f", "\x7f"} {
			checkScan(t, s+end, tokens(atom(s), bad(end)))
			checkScan(t, s+end+s, tokens(atom(s), bad(end), atom(s)))
		}
		for _, end := range []string{"(", "\"", "["} {
			checkScan(t, s+end+s, tokens(atom(s), bad(end+s)))
		}
		checkScan(t, s+"()"+s, tokens(atom(s), comment("()"), atom(s)))
		checkScan(t, s+"\"\""+s, tokens(atom(s), quoted("\"\""), atom(s)))
		checkScan(t, s+"[]"+s, tokens(atom(s), literal("[]"), atom(s)))
	}
}

// P10.1: comments nest, and end at the parenthesis that matches their first.
func TestComments(t *testing.T) {
	checkScans(t, []scanCase{
		{"()", tokens(comment("()"))},
		{"()()", tokens(comment("()"), comment("()"))},
		{"(a)b", tokens(comment("(a)"), atom("b"))},
		{"(a b)", tokens(comment("(a b)"))},
		{"(\r\n \x00\x7f\xff)", tokens(comment("(\r\n \x00\x7f\xff)"))},
		{"(a(b)\\)c)d", tokens(comment("(a(b)\\)c)"), atom("d"))},
		{"(())", tokens(comment("(())"))},
		{"(()())", tokens(comment("(()())"))},
		{"(((a)(b(c)))d)e", tokens(comment("(((a)(b(c)))d)"), atom("e"))},
		{"(a))", tokens(comment("(a)"), special(")"))},
		{"((a)))", tokens(comment("((a))"), special(")"))},
		{"(((a))))))", tokens(comment("(((a)))"), special(")"), special(")"), special(")"))},
		{"(]\">)", tokens(comment("(]\">)"))},
		{"(\")\")", tokens(comment("(\")"), bad("\")"))},
		{"([)])", tokens(comment("([)"), special("]"), special(")"))},
		{"(\\))", tokens(comment("(\\))"))},
		{"(\\()", tokens(comment("(\\()"))},
		{"(\\\\)", tokens(comment("(\\\\)"))},
		{"(\\\\))", tokens(comment("(\\\\)"), special(")"))},
		{"(\\\\\\))", tokens(comment("(\\\\\\))"))},
		{"(\\\\())", tokens(comment("(\\\\())"))},
		{"(\\a\\\")", tokens(comment("(\\a\\\")"))},
		{"(a(\\))b)c", tokens(comment("(a(\\))b)"), atom("c"))},
		{"(a\\(b)c", tokens(comment("(a\\(b)"), atom("c"))},
	})
	checkUnclosed(t, []string{"(", "((", "(()", "(a", "(a(b)", "((a)", "(((a))", "(\\)", "(\\", "(a\\", "(\\\\\\)", "((\\))", "(a \"b\" [c]", "(]\"", "(()()", "(\r\n", "(\x00\xff"})
}

// P10.1: a quoted string ends at the next double quote that is not escaped.
func TestQuotedStrings(t *testing.T) {
	checkScans(t, []scanCase{
		{"\"\"", tokens(quoted("\"\""))},
		{"\"\"\"\"", tokens(quoted("\"\""), quoted("\"\""))},
		{"\"\"\"", tokens(quoted("\"\""), bad("\""))},
		{"\"a\"b", tokens(quoted("\"a\""), atom("b"))},
		{"a\"b\"c", tokens(atom("a"), quoted("\"b\""), atom("c"))},
		{"\"a\"b\"", tokens(quoted("\"a\""), atom("b"), bad("\""))},
		{"\"a\\\"b\"c", tokens(quoted("\"a\\\"b\""), atom("c"))},
		{"\"a b.c\"", tokens(quoted("\"a b.c\""))},
		{"\"\r\n \x00\x7f\xff\"", tokens(quoted("\"\r\n \x00\x7f\xff\""))},
		{"\")]\"", tokens(quoted("\")]\""))},
		{"\"(\")", tokens(quoted("\"(\""), special(")"))},
		{"\"[\"]", tokens(quoted("\"[\""), special("]"))},
		{"\"(a)[b]\"", tokens(quoted("\"(a)[b]\""))},
		{"\"\\\"\"", tokens(quoted("\"\\\"\""))},
		{"\"\\\\\"", tokens(quoted("\"\\\\\""))},
		{"\"\\\\\"\"", tokens(quoted("\"\\\\\""), bad("\""))},
		{"\"\\\\\\\"\"", tokens(quoted("\"\\\\\\\"\""))},
		{"\"\\(\"", tokens(quoted("\"\\(\""))},
		{"\"\\\n\"", tokens(quoted("\"\\\n\""))},
		{"a \"b\\\"c\" (d)", tokens(atom("a"), space(" "), quoted("\"b\\\"c\""), space(" "), comment("(d)"))},
	})
	checkUnclosed(t, []string{"\"", "\"a", "\"a b", "\"\\\"", "\"\\", "\"b\\", "\"\\\\\\\"", "\"(a)", "\"[a]", "\")]", "\"\r\n", "\"\x00\xff"})
}

// P10.1: a literal ends at the next closing bracket that is not escaped, and does not nest.
func TestLiterals(t *testing.T) {
	checkScans(t, []scanCase{
		{"[]", tokens(literal("[]"))},
		{"[][]", tokens(literal("[]"), literal("[]"))},
		{"[1.2]", tokens(literal("[1.2]"))},
		{"[1.2]]", tokens(literal("[1.2]"), special("]"))},
		{"a@[1.2]", tokens(atom("a"), special("@"), literal("[1.2]"))},
		{"[[]", tokens(literal("[[]"))},
		{"[[]]", tokens(literal("[[]"), special("]"))},
		{"[a[b]c]d", tokens(literal("[a[b]"), atom("c"), special("]"), atom("d"))},
		{"[)\"]", tokens(literal("[)\"]"))},
		{"[(\"]", tokens(literal("[(\"]"))},
		{"[(])", tokens(literal("[(]"), special(")"))},
		{"[\"]\"", tokens(literal("[\"]"), bad("\""))},
		{"[(a)\"b\"]", tokens(literal("[(a)\"b\"]"))},
		{"[\r\n \x00\x7f\xff]", tokens(literal("[\r\n \x00\x7f\xff]"))},
		{"[\\]]", tokens(literal("[\\]]"))},
		{"[\\[]", tokens(literal("[\\[]"))},
		{"[\\\\]", tokens(literal("[\\\\]"))},
		{"[\\\\]]", tokens(literal("[\\\\]"), special("]"))},
		{"[\\\\\\]]", tokens(literal("[\\\\\\]]"))},
		{"[\\(]", tokens(literal("[\\(]"))},
		{"[a\\]b]c", tokens(literal("[a\\]b]"), atom("c"))},
	})
	checkUnclosed(t, []string{"[", "[[", "[a", "[a[", "[\\]", "[\\", "[a\\", "[\\\\\\]", "[(a)", "[\"a\"", "[)\"", "[\r\n", "[\x00\xff"})
}

// checkUnclosed holds strings whose first token is not closed against one bad token, alone and behind other tokens.
func checkUnclosed(t *testing.T, list []string) {
	t.Helper()
	for _, s := range list {
		checkScan(t, s, tokens(bad(s)))
		checkScan(t, "a"+s, tokens(atom("a"), bad(s)))
		checkScan(t, " "+s, tokens(space(" "), bad(s)))
		checkScan(t, "."+s, tokens(special("."), bad(s)))
		checkScan(t, "\x00"+s, tokens(bad("\x00"), bad(s)))
		checkScan(t, "(a)"+s, tokens(comment("(a)"), bad(s)))
		checkScan(t, "[a]"+s, tokens(literal("[a]"), bad(s)))
		checkScan(t, "\"a\""+s, tokens(quoted("\"a\""), bad(s)))
	}
}

// P10.1: closing bytes that nothing opened, and backslashes outside, which escape nothing there.
func TestOutside(t *testing.T) {
	checkScans(t, []scanCase{
		{")", tokens(special(")"))},
		{"a)b", tokens(atom("a"), special(")"), atom("b"))},
		{"]]", tokens(special("]"), special("]"))},
		{")]", tokens(special(")"), special("]"))},
		{"\\", tokens(special("\\"))},
		{"\\\\", tokens(special("\\"), special("\\"))},
		{"\\a", tokens(special("\\"), atom("a"))},
		{"a\\", tokens(atom("a"), special("\\"))},
		{"\\ ", tokens(special("\\"), space(" "))},
		{"\\(a)", tokens(special("\\"), comment("(a)"))},
		{"\\\"a\"", tokens(special("\\"), quoted("\"a\""))},
		{"\\[a]", tokens(special("\\"), literal("[a]"))},
		{"\\(a\\)", tokens(special("\\"), bad("(a\\)"))},
		{"\\\"", tokens(special("\\"), bad("\""))},
		{")\\:", tokens(special(")"), special("\\"), special(":"))},
	})
}

// P10.1: comments that nest deep, with one closing byte too few and one too many.
func TestDeepComments(t *testing.T) {
	for _, depth := range []int{1, 2, 3, 10, 1000, 100000} {
		open, closed := strings.Repeat("(", depth), strings.Repeat(")", depth)
		s := open + "a" + closed
		checkScan(t, s, tokens(comment(s)))
		checkScan(t, s+")", tokens(comment(s), special(")")))
		checkScan(t, "("+s, tokens(bad("("+s)))
		checkScan(t, s+s, tokens(comment(s), comment(s)))
		s = strings.Repeat("(\\((a)", depth) + strings.Repeat("b)", depth)
		checkScan(t, s+"c", tokens(comment(s), atom("c")))
		checkScan(t, s[:len(s)-1]+"\\)", tokens(bad(s[:len(s)-1]+"\\)")))
	}
}

// P10.1: Scan against a reference of its own kind, for inputs of all kinds.
func TestScanAgainstReference(t *testing.T) {
	for _, s := range texts() {
		checkScan(t, s, scanned(s))
	}
}

// P10.1, P10.5: the tokens' texts make up the string, none is empty, each is one token by itself, and neither white space nor an atom stands beside another of its kind.
func TestTokensMakeUpTheString(t *testing.T) {
	for _, s := range texts() {
		l := token.Scan(s)
		if got := token.Join(l); got != s {
			t.Errorf("the tokens of %.60q make up %.60q", s, got)
		}
		last := 0
		for _, one := range l {
			if one.Text == "" {
				t.Errorf("a token of %.60q is empty", s)
			}
			if again := token.Scan(one.Text); len(again) != 1 || again[0] != one {
				t.Errorf("a token of %.60q, %s, is scanned to %s", s, shown(tokens(one)), shown(again))
			}
			if one.Kind == last && (last == api.TSpace || last == api.TAtom) {
				t.Errorf("%s, and before it one of its kind, in %.60q", shown(tokens(one)), s)
			}
			last = one.Kind
		}
	}
}

// lists pairs lists of tokens, such as Scan returns and others, with their bare ones.
var lists = []struct{ all, bare []api.Token }{
	{nil, nil},
	{tokens(), nil},
	{tokens(space(" ")), nil},
	{tokens(comment("(a)")), nil},
	{tokens(space(" "), comment("(a)"), space("\t"), comment("()"), comment("(b)")), nil},
	{tokens(atom("a")), tokens(atom("a"))},
	{tokens(quoted("\"a\"")), tokens(quoted("\"a\""))},
	{tokens(special(".")), tokens(special("."))},
	{tokens(literal("[a]")), tokens(literal("[a]"))},
	{tokens(bad("\x00")), tokens(bad("\x00"))},
	{tokens(bad("(a"), bad("\"a"), bad("[a")), tokens(bad("(a"), bad("\"a"), bad("[a"))},
	{tokens(api.Token{}), tokens(api.Token{})},
	{tokens(api.Token{Kind: 8, Text: "a"}, api.Token{Kind: -1, Text: " "}, api.Token{Text: "(b)"}), tokens(api.Token{Kind: 8, Text: "a"}, api.Token{Kind: -1, Text: " "}, api.Token{Text: "(b)"})},
	{tokens(api.Token{Kind: api.MaxInt, Text: "a"}, api.Token{Kind: api.MinInt, Text: "b"}), tokens(api.Token{Kind: api.MaxInt, Text: "a"}, api.Token{Kind: api.MinInt, Text: "b"})},
	{tokens(space("a"), atom(" "), comment("b"), special("(c)"), quoted(""), literal("\xff"), bad("d")), tokens(atom(" "), special("(c)"), quoted(""), literal("\xff"), bad("d"))},
	{tokens(space(""), comment(""), atom("")), tokens(atom(""))},
	{tokens(atom("c"), space(" "), atom("b"), comment("(x)"), atom("a"), space(" "), atom("c")), tokens(atom("c"), atom("b"), atom("a"), atom("c"))},
	{tokens(space(" "), atom("a"), space(" ")), tokens(atom("a"))},
	{tokens(atom("a"), atom("b"), atom("a")), tokens(atom("a"), atom("b"), atom("a"))},
}

// P10.1: Join of lists that Scan returns, and of others: it asks for the texts alone.
func TestJoin(t *testing.T) {
	for _, c := range lists {
		want := ""
		for _, one := range c.all {
			want += one.Text
		}
		if got := token.Join(c.all); got != want {
			t.Errorf("Join of %s = %.60q, want %.60q", shown(c.all), got, want)
		}
	}
	if got := token.Join(tokens(atom("b"), space(""), comment("a"), api.Token{Kind: 9, Text: "\xff\n"}, atom("b"))); got != "ba\xff\nb" {
		t.Errorf("Join = %q", got)
	}
}

// P10.1: Bare leaves out white space and comments, by their kinds alone, and keeps all others in their order.
func TestBare(t *testing.T) {
	for _, c := range lists {
		if got := token.Bare(c.all); !slices.Equal(got, c.bare) {
			t.Errorf("Bare of %s = %s, want %s", shown(c.all), shown(got), shown(c.bare))
		}
	}
	got := token.Bare(token.Scan("a (b) \"c\" \x00 <d@[e]>(f"))
	want := tokens(atom("a"), quoted("\"c\""), bad("\x00"), special("<"), atom("d"), special("@"), literal("[e]"), special(">"), bad("(f"))
	if !slices.Equal(got, want) {
		t.Errorf("Bare = %s, want %s", shown(got), shown(want))
	}
}

// P10.1: Bare of the tokens of inputs of all kinds.
func TestBareOfTexts(t *testing.T) {
	for _, s := range texts() {
		l := token.Scan(s)
		want := slices.DeleteFunc(slices.Clone(l), func(one api.Token) bool {
			return one.Kind == api.TSpace || one.Kind == api.TComment
		})
		got := token.Bare(l)
		if !slices.Equal(got, want) {
			t.Errorf("Bare of %s = %s, want %s", shown(l), shown(got), shown(want))
		}
		if again := token.Bare(got); !slices.Equal(again, got) {
			t.Errorf("Bare of the bare %s = %s", shown(got), shown(again))
		}
	}
}

// inMemory is a string that lies in memory which a test may write over.
func inMemory(s string) (string, []byte) {
	memory := append([]byte(s), 0)
	return unsafe.String(&memory[0], len(s)), memory
}

// P10.4, R2: Scan changes and keeps nothing of its argument: the tokens stay as they are when its memory is written over.
func TestScanKeepsNoArgument(t *testing.T) {
	for _, s := range []string{"pouch", " ", ".", "(a)", "\"a\"", "[a]", "\x00", "(a", "a \"b\" (c)[d].\x00(e", samples.AllBytes()} {
		text, memory := inMemory(s)
		l := token.Scan(text)
		if text != s {
			t.Errorf("Scan changed its argument to %.60q", text)
		}
		clear(memory)
		if want := scanned(s); !slices.Equal(l, want) {
			t.Errorf("the tokens became %s, want %s", shown(l), shown(want))
		}
	}
}

// P10.4, R2: Join and Bare change and keep nothing of their arguments, nor of the texts within them.
func TestListsAreNotKept(t *testing.T) {
	for _, c := range lists {
		var memories [][]byte
		full := make([]api.Token, 0, len(c.all)+2)
		for _, one := range c.all {
			text, memory := inMemory(one.Text)
			memories = append(memories, memory)
			full = append(full, api.Token{Kind: one.Kind, Text: text})
		}
		full = append(full, atom("behind"), atom("the list"))
		l := full[:len(c.all)]
		joined, bare := token.Join(l), token.Bare(l)
		if !slices.Equal(l, c.all) || full[len(l)] != atom("behind") || full[len(l)+1] != atom("the list") {
			t.Errorf("the list %s became %s", shown(c.all), shown(full))
		}
		for _, memory := range memories {
			clear(memory)
		}
		clear(full)
		if want := token.Join(c.all); joined != want {
			t.Errorf("what Join returned became %.60q, want %.60q", joined, want)
		}
		if !slices.Equal(bare, c.bare) {
			t.Errorf("what Bare returned became %s, want %s", shown(bare), shown(c.bare))
		}
	}
}

// P10.4: lists that were returned are fresh: one stays as it is when another call follows, and changing it changes nothing else.
func TestReturnedListsAreFresh(t *testing.T) {
	const s = "a \"b\" (c) d"
	want, bareWant := scanned(s), tokens(atom("a"), quoted("\"b\""), atom("d"))
	first, second := token.Scan(s), token.Scan(s)
	bare, again := token.Bare(second), token.Bare(second)
	token.Scan("w.x [y] (z) \x00")
	token.Bare(tokens(atom("w"), special("."), atom("x")))
	for _, l := range [][]api.Token{first, bare} {
		_ = append(l[:1], bad("more"), bad("more"), bad("more"))
		l[0] = bad("changed")
	}
	if !slices.Equal(second, want) || !slices.Equal(again, bareWant) {
		t.Errorf("other lists became %s and %s", shown(second), shown(again))
	}
	checkScan(t, s, want)
	if got := token.Bare(second); !slices.Equal(got, bareWant) {
		t.Errorf("Bare = %s, want %s", shown(got), shown(bareWant))
	}
	// A list from which nothing is left out is another list, too.
	whole := tokens(atom("a"), special("."), atom("b"))
	token.Bare(whole)[0] = bad("changed")
	if whole[0] != atom("a") {
		t.Errorf("the list became %s", shown(whole))
	}
}

// P1: the calls end soon for long strings of the kinds that they stop at.
func TestLongStrings(t *testing.T) {
	const many = 1000000
	for _, c := range []struct {
		unit      string
		all, bare int
	}{
		{"a", 1, 1},
		{" ", 1, 0},
		{"\r\n", 1, 0},
		{"\xff", 1, 1},
		{"\x00", many, many},
		{".", many, many},
		{"\\", many, many},
		{")", many, many},
		{"a ", 2 * many, many},
		{"a.", 2 * many, 2 * many},
		{"(", 1, 1},
		{"[", 1, 1},
		{"\"", many / 2, many / 2},
		{"()", many, 0},
		{"[]", many, many},
		{"(\\)", 1, 1},
		{"\\(", 2, 2},
		{"\"a\\\"\"", many, many},
		{"(a) ", 2 * many, 0},
	} {
		s := strings.Repeat(c.unit, many)
		l := token.Scan(s)
		if len(l) != c.all || token.Join(l) != s {
			t.Errorf("Scan of %q, repeated: %d tokens", c.unit, len(l))
		}
		if bare := token.Bare(l); len(bare) != c.bare {
			t.Errorf("Bare of %q, repeated: %d tokens", c.unit, len(bare))
		}
	}
}
